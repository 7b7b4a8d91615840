/- The texts M7, M8, joined. -/
import Derived.Test.YtmfolclpddoplaaQM4
import Derived.Deep.RegionHeld3

/- Walks: all vertices, all but one; a vertex cut. -/
namespace Go.Proofs.Ytmfolclpddoplaa
open Go.RowKit

/-- The numbers below n. -/
def allL (n : Nat) : List Int := (List.range n).map (fun i : Nat => (i : Int))
theorem allL_len (n : Nat) : (allL n).length = n := by simp [allL]
theorem allL_succ (n : Nat) : allL (n + 1) = allL n ++ [(n : Int)] := by simp [allL, List.range_succ]
theorem allL_mem (n : Nat) (z : Int) : z ∈ allL n ↔ ∃ i : Nat, i < n ∧ (i : Int) = z := by simp [allL]
theorem allL_pair (n : Nat) : (allL n).Pairwise (· < ·) := by
  unfold allL
  rw [List.pairwise_map]
  exact List.Pairwise.imp (fun h => by omega) List.pairwise_lt_range

set_option maxHeartbeats 800000 in
theorem l1All_any (n : Nat) (w : World) (hn : n ≤ 16) : Calls Try.prog 80 #[.int .i64 (n : Int)] w (GaveRow w (allL n)) := by
  obtain ⟨i0, hi, hz0, hz1, hz2⟩ := info_parts Try.infoI
  have hown0 : (w.alloc (.cells #[] 2)).ownsRow w.heap.size 2 1 (.slice (some ⟨w.heap.size, 0, none⟩) 0 0) 0 [] := World.ownsRow_lit w #[] 0 (Nat.le_refl _) (Nat.zero_le _) rfl
  have HO0 := Lib.hid hown0
  clear hown0
  go_enter Try.func80, Try.ntmps80
  go_wp2_with fail
  go_loopw [3, 4] (fun s i wr => ∃ k : Nat, k ≤ n ∧ i = .int .i64 k ∧ wr.ownsRow w.heap.size 2 1 s (allL k).length ((allL k).map (Value.int .i64)) ∧ Below w.heap.size w wr ∧ w.heap.size ≤ wr.heap.size) (fun _ i _ => n - (intOf i).toNat)
  case atStart => exact ⟨0, Nat.zero_le _, rfl, HO0.out, (Below.refl _ _).alloc (Nat.le_refl _) _, by simp⟩
  case round =>
    obtain ⟨k, hk, rfl, ho, hb, hz⟩ := hrel
    have HO := Lib.hid ho
    have HB := Lib.hid hb
    have hll := allL_len k
    have HLL := Lib.hid hll
    clear ho hb hll
    by_cases hlt : k < n
    · go_wp2_with (at_builtin; refine wpList_append_own _ rfl (.tmp 11) (.tmp 13) 31 rfl w.heap.size 2 i0 (.int .i64 0) 1 8 Try.underlying31 hi hz0 hz1 hz2 rfl (by decide) _ _ _ rfl (HO.out.alloc _) ⟨wr.heap.size, 0, none⟩ 1 1 [.int .i64 (k : Int)] rfl rfl ?d1 ?d2 ?d3 ?d4 ?d5 ?_)
      case d1 =>
        intro j u hj
        match j, hj with
        | 0, hj => simp at hj; subst hj; simp [Addr.add]
      case d2 => intro u hu; simp at hu; subst hu; rfl
      case d3 => rw [HLL.out]; unfold maxLen; omega
      case d4 => rw [HLL.out]; omega
      case d5 => simp; omega
      intro v4 w4 hown4 hgrow4 _
      have hb4 : Below w.heap.size w w4 := (HB.out.alloc hz _).grown hgrow4 (by simp; omega) (fun j hj => (HO.out.lt j hj).1)
      have HO4 := Lib.hid hown4
      have HB4 := Lib.hid hb4
      clear hown4 hgrow4 hb4
      go_wp2
      go_roundw
      case rel =>
        refine ⟨k + 1, by omega, by go_num, ?_, HB4.out, HB4.out.size⟩
        rw [allL_succ]
        simpa using HO4.out
      case measure => simp [intOf]; omega
    · obtain rfl : k = n := by omega
      have hro : OwnRow 2 wr w.heap.size _ (allL k) := OwnRow.of_ownsRow (n := (allL k).length) HO.out (by rw [HLL.out]; unfold maxLen; omega) (fun x hx => by obtain ⟨i, h1, rfl⟩ := (allL_mem k x).1 hx; unfold I64; omega)
      obtain ⟨a4, c4, e4⟩ := hro.row.slice
      have HP : Hid (GaveRow w (allL k) (.returned (.slice a4 (allL k).length c4)) wr) := ⟨_, a4, c4, rfl, by rw [← e4]; exact hro, HB.out⟩
      rw [e4]
      clear hro e4
      go_wp2
      go_ret
      exact HP.out

/-- A list without x. -/
def wo (xs : List Int) (x : Int) : List Int := xs.filter (fun y => y != x)
theorem wo_len (xs : List Int) (x : Int) : (wo xs x).length ≤ xs.length := List.length_filter_le _ _
theorem wo_mem (xs : List Int) (x z : Int) : z ∈ wo xs x ↔ z ∈ xs ∧ z ≠ x := by simp [wo]
theorem wo_take {xs : List Int} {k : Nat} (x : Int) (hk : k < xs.length) : wo (xs.take (k + 1)) x = wo (xs.take k) x ++ if (nth xs k != x) = true then [nth xs k] else [] := by
  rw [List.take_succ_eq_append_getElem hk, nth_eq hk]
  unfold wo
  rw [List.filter_append]
  congr 1
  by_cases h : (xs[k] != x) = true
  · rw [if_pos h]; simp only [List.filter_cons, h, if_true, List.filter_nil]
  · rw [if_neg h]; simp only [List.filter_cons, h, List.filter_nil]; rfl

/-- The vertices below n but x, rising. -/
def restL (n x : Nat) : List Int := listM (clrM (2 ^ n - 1) (2 ^ x))
theorem restL_mem {n x : Nat} (hn : n ≤ 16) (hx : x < n) (z : Int) : z ∈ restL n x ↔ ∃ i : Nat, i < n ∧ i ≠ x ∧ (i : Int) = z := by
  unfold restL
  rw [listM_mem]
  constructor
  · rintro ⟨i, h1, h2, h3⟩
    rw [clrM_bit (whole_lt hn) (pow_lt16 (by omega)), whole_bit, Nat.testBit_two_pow] at h2
    simp at h2
    exact ⟨i, h2.1, fun e => h2.2 e.symm, h3⟩
  · rintro ⟨i, h1, h2, h3⟩
    refine ⟨i, by omega, ?_, h3⟩
    rw [clrM_bit (whole_lt hn) (pow_lt16 (by omega)), whole_bit, Nat.testBit_two_pow]
    simp
    exact ⟨h1, fun e => h2 e.symm⟩
theorem wo_all {n x : Nat} (hn : n ≤ 16) (hx : x < n) : wo (allL n) (x : Int) = restL n x := by
  refine sets_eq (SetP.mk ?_ ?_) (listM_set _) (fun z => ?_)
  · exact (allL_pair n).sublist List.filter_sublist
  · intro z hz
    obtain ⟨i, h1, rfl⟩ := (allL_mem n z).1 ((wo_mem _ _ _).1 hz).1
    omega
  · rw [wo_mem, allL_mem, restL_mem hn hx]
    constructor
    · rintro ⟨⟨i, h1, rfl⟩, h2⟩; exact ⟨i, h1, fun e => h2 (by rw [e]), rfl⟩
    · rintro ⟨i, h1, h2, rfl⟩; exact ⟨⟨i, h1, rfl⟩, fun e => h2 (by omega)⟩
theorem restL_len (n x : Nat) : (restL n x).length ≤ 16 := listM_len _
theorem restL_pos {n x : Nat} (hn : n ≤ 16) (hx : x < n) (h2 : 2 ≤ n) : 0 < (restL n x).length := by
  have : ((if x = 0 then 1 else 0 : Nat) : Int) ∈ restL n x := by
    rw [restL_mem hn hx]
    refine ⟨if x = 0 then 1 else 0, ?_, ?_, rfl⟩
    · split <;> omega
    · split <;> omega
  exact List.length_pos_of_mem this
theorem restL_in {n x : Nat} (hn : n ≤ 16) (hx : x < n) (i : Nat) (hi : i < (restL n x).length) : 0 ≤ nth (restL n x) i ∧ nth (restL n x) i < (n : Int) := by
  obtain ⟨j, h1, _, h3⟩ := (restL_mem hn hx _).1 (nth_mem hi)
  rw [← h3]; omega

end Go.Proofs.Ytmfolclpddoplaa

/- Walks: a vertex cut. -/
namespace Go.Proofs.Ytmfolclpddoplaa
open Go.RowKit

/-- May this vertex be cut? -/
def cutB (L : List (List Int)) (x : Int) : Bool := decide (GraphP L) && inB x 0 ((L.length : Int) - 1) && !((L.length : Int) == 1)
theorem cutB_yes {L : List (List Int)} {x : Int} (h : cutB L x = true) : GraphP L ∧ 0 ≤ x ∧ x < (L.length : Int) ∧ 2 ≤ L.length ∧ L.length ≤ 16 := by
  unfold cutB inB at h
  simp at h
  have := h.1.1.1
  exact ⟨h.1.1, h.1.2.1, by omega, by omega, by omega⟩
/-- The graph without the vertex. -/
def cutL (L : List (List Int)) (x : Int) : List (List Int) := pickL L (restL L.length x.toNat) (cutB L x)
theorem cutL_small (L : List (List Int)) (x : Int) : Small (cutL L x) := pickL_small (fun _ => restL_len _ _)
theorem cutL_no {L : List (List Int)} {x : Int} (h : cutB L x = false) : cutL L x = [] := by rw [cutL, h]; rfl

end Go.Proofs.Ytmfolclpddoplaa
