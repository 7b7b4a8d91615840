/- The texts A1, A2, A3, A4, A5, joined. -/
import Derived.Test.YtohjfcfcopbmoaaProg
import Derived.Test.YtohjfcfcopbmoaaBase
import Derived.Test.YtohjfcfcopbmoaaOwn

/- Walks of the laws' own helpers: sizes. -/
namespace Go.Proofs.Ytohjfcfcopbmoaa
open Go.RowKit

/-- What szInt64S answers. -/
def szRow (n : Nat) (left : Int) : Int := if left - n < 0 then -1 else left - n
theorem szInt64S_any (a : Option Addr) (n c : Nat) (left : Int) (w : World) (hn : n ≤ maxLen) (h0 : 0 ≤ left) (h1 : left ≤ 1048576) :
    Calls Try.prog 51 #[.slice a n c, .int .i64 left] w fun e w' => e = .returned (.int .i64 (szRow n left)) ∧ w = w' := by
  unfold maxLen at hn
  by_cases h : left - n < 0
  · have hs : szRow n left = -1 := by simp [szRow, h]
    rw [hs]
    go_enter Try.func51, Try.ntmps51
    go_wp2
    go_ret
    exact ⟨rfl, rfl⟩
  · have hs : szRow n left = left - n := by simp [szRow, h]
    rw [hs]
    go_enter Try.func51, Try.ntmps51
    go_wp2
    go_ret
    exact ⟨rfl, rfl⟩

end Go.Proofs.Ytohjfcfcopbmoaa

namespace Go.Proofs.Ytohjfcfcopbmoaa
open Go.RowKit

theorem szRow_neg {n : Nat} {left : Int} (h : szRow n left < 0) : szRow n left = -1 := by
  unfold szRow at *; split at h <;> simp_all
theorem szRow_le {n : Nat} {left : Int} (h : 0 ≤ left) : szRow n left ≤ left := by
  unfold szRow; split <;> omega

/-- What szInt64SS answers: the row of the outer slice first, then the rows; -1 from the first that is too much. -/
def szGrid (L : List (List Int)) (left : Int) : Int := if left - L.length < 0 then -1 else
  (List.range L.length).foldl (fun l k => if l < 0 then -1 else szRow (nthR L k).length l) (left - L.length)

/-- The fold's state after k rows. -/
def szSt (L : List (List Int)) (left : Int) (k : Nat) : Int := (List.range k).foldl (fun l k => if l < 0 then -1 else szRow (nthR L k).length l) left
theorem szSt_succ (L : List (List Int)) (left : Int) (k : Nat) : szSt L left (k + 1) = if szSt L left k < 0 then -1 else szRow (nthR L k).length (szSt L left k) := by
  unfold szSt
  rw [List.range_succ, List.foldl_append]
  rfl
theorem szSt_neg (L : List (List Int)) (left : Int) (k j : Nat) (h : szSt L left k = -1) : szSt L left (k + j) = -1 := by
  induction j with
  | zero => exact h
  | succ j ih => rw [← Nat.add_assoc, szSt_succ, ih]; simp

set_option maxHeartbeats 400000 in
theorem szInt64SS_any (v : Value) (L : List (List Int)) (left : Int) (w : World) (h : GridAt w v L) (h0 : 0 ≤ left) (h1 : left ≤ 1048576) :
    Calls Try.prog 30 #[v, .int .i64 left] w fun e w' => e = .returned (.int .i64 (szGrid L left)) ∧ w = w' := by
  have hlen := h.len
  unfold maxLen at hlen
  by_cases hs : left - L.length < 0
  · have e1 : szGrid L left = -1 := by simp [szGrid, hs]
    rw [e1]
    obtain ⟨a, c, rfl⟩ := h.slice
    go_enter Try.func30, Try.ntmps30
    go_wp2
    go_ret
    exact ⟨rfl, rfl⟩
  · have e1 : szGrid L left = szSt L (left - L.length) L.length := by simp [szGrid, hs, szSt]
    rw [e1]
    rcases h.elim with ⟨e, a, c, rfl⟩ | ⟨b, o, c, A, C, rfl, l1, l2, hc⟩
    · have e2 : szSt L (left - L.length) L.length = left := by rw [e]; simp [szSt]
      rw [e2]
      go_enter Try.func30, Try.ntmps30
      go_wp2
      refine wp_loop_rounds 1 ?_
      rw [rounds_succ]
      go_wp2
      go_ret
      exact ⟨rfl, rfl⟩
    · have HC := Lib.hid hc
      clear hc e1
      go_enter Try.func30, Try.ntmps30
      go_wp2
      go_loop [1, 5] (fun l i => ∃ k : Nat, k ≤ L.length ∧ i = .int .i64 k ∧ 0 ≤ szSt L (left - L.length) k ∧ szSt L (left - L.length) k ≤ 1048576 ∧ l = .int .i64 (szSt L (left - L.length) k)) (fun _ i => L.length - (intOf i).toNat)
      case atStart => exact ⟨0, Nat.zero_le _, rfl, by simp [szSt]; omega, by simp [szSt]; omega, by simp [szSt]⟩
      case round =>
        obtain ⟨k, hk, rfl, hs0, hs1, rfl⟩ := hrel
        by_cases hlt : k < L.length
        · have hck := (HC.out k hlt).1
          have hrl := (HC.out k hlt).2.len
          have hsu := szSt_succ L (left - L.length) k
          rw [if_neg (by omega)] at hsu
          generalize hst : szSt L (left - L.length) k = st at *
          have HST := Lib.hid hst
          have HSU := Lib.hid hsu
          clear hst hsu
          go_wp2_with fail
          refine (szInt64S_any _ _ _ _ _ hrl hs0 hs1).mono ?_
          rintro e w' ⟨rfl, rfl⟩
          by_cases hn : szRow (nthR L k).length st < 0
          · have hm1 := szRow_neg hn
            have hfin : szSt L (left - L.length) L.length = -1 := by
              have := szSt_neg L (left - L.length) (k + 1) (L.length - (k + 1)) (by rw [HSU.out, hm1])
              rwa [show k + 1 + (L.length - (k + 1)) = L.length from by omega] at this
            have HF := Lib.hid hfin
            clear hfin
            rw [hm1]
            clear hm1
            go_wp2
            go_ret
            exact ⟨ret_int HF.out.symm, rfl⟩
          · have hle := szRow_le (n := (nthR L k).length) hs0
            go_wp2
            go_round
            case rel => exact ⟨k + 1, by omega, by go_num, by rw [HSU.out]; omega, by rw [HSU.out]; omega, by rw [HSU.out]⟩
            case measure => simp [intOf]; omega
        · obtain rfl : k = L.length := by omega
          go_wp2
          go_ret
          exact ⟨rfl, rfl⟩

theorem szSt_le (L : List (List Int)) (left : Int) (k : Nat) (h : 0 ≤ szSt L left k) : ∀ j, j < k → 0 ≤ szSt L left j ∧ ((nthR L j).length : Int) ≤ szSt L left j - szSt L left (j + 1) ∧ 0 ≤ szSt L left (j + 1) := by
  intro j hj
  have h1 : 0 ≤ szSt L left (j + 1) := by
    rcases Classical.em (0 ≤ szSt L left (j + 1)) with h1 | h1
    · exact h1
    · exfalso
      have e : szSt L left (j + 1) = -1 := by
        have h2 := szSt_succ L left j
        split at h2
        · exact h2
        · rw [h2] at h1 ⊢; exact szRow_neg (by omega)
      have := szSt_neg L left (j + 1) (k - (j + 1)) e
      rw [show j + 1 + (k - (j + 1)) = k from by omega] at this
      omega
  have h2 := szSt_succ L left j
  split at h2
  · omega
  · refine ⟨by omega, ?_, h1⟩
    rw [h2] at h1 ⊢
    unfold szRow at *
    split at h1 <;> split <;> omega

/-- The sizes that an answer of szInt64SS from 0 on tells. -/
def Small (L : List (List Int)) : Prop := L.length ≤ 1048576 ∧ ∀ i, i < L.length → (nthR L i).length ≤ 1048576
theorem szGrid_small {L : List (List Int)} {left : Int} (h1 : left ≤ 1048576) (h : 0 ≤ szGrid L left) : Small L ∧ szGrid L left ≤ left := by
  unfold szGrid at h ⊢
  split at h
  · omega
  · rename_i hn
    rw [if_neg hn]
    have h' : 0 ≤ szSt L (left - L.length) L.length := h
    have hle : ∀ k, k ≤ L.length → szSt L (left - L.length) k ≤ left - L.length := by
      intro k
      induction k with
      | zero => intro _; simp [szSt]
      | succ k ih => intro hk; have := szSt_le L _ _ h' k (by omega); have := ih (by omega); omega
    refine ⟨⟨by omega, fun i hi => ?_⟩, ?_⟩
    · have := szSt_le L _ _ h' i hi
      have := hle i (by omega)
      omega
    · have := hle L.length (Nat.le_refl _); unfold szSt at this; omega
theorem szGrid_neg {L : List (List Int)} {left : Int} (h : szGrid L left < 0) : szGrid L left = -1 := by
  unfold szGrid at h ⊢
  split
  · rfl
  · rename_i hn
    rw [if_neg hn] at h
    have h' : szSt L (left - L.length) L.length < 0 := h
    show szSt L (left - L.length) L.length = -1
    generalize L.length = n at *
    have : ∀ k, szSt L (left - n) k < 0 → szSt L (left - n) k = -1 := by
      intro k hk
      cases k with
      | zero => simp [szSt] at hk; omega
      | succ k =>
        have h2 := szSt_succ L (left - n) k
        split at h2
        · exact h2
        · rw [h2] at hk ⊢; exact szRow_neg hk
    exact this n h'

set_option maxHeartbeats 400000 in
theorem szGraph_any (v : Value) (L : List (List Int)) (left : Int) (w : World) (h : GridAt w v L) (h0 : 0 ≤ left) (h1 : left ≤ 1048576) :
    Calls Try.prog 12 #[.agg #[v], .int .i64 left] w fun e w' => e = .returned (.int .i64 (szGrid L left)) ∧ Below w.heap.size w w' := by
  have hk := h.keep ((Below.refl w.heap.size w).alloc (Nat.le_refl _) (.cells #[v] 32))
  by_cases hs : szGrid L left < 0
  · have e1 := szGrid_neg hs
    have E1 := Lib.hid e1
    clear e1
    obtain ⟨a, c, rfl⟩ := h.slice
    go_enter Try.func12, Try.ntmps12
    go_wp2_with fail
    refine (szInt64SS_any _ _ _ _ hk h0 h1).mono ?_
    rintro e w' ⟨rfl, rfl⟩
    go_wp2
    go_ret
    exact ⟨ret_int E1.out.symm, (Below.refl _ _).alloc (Nat.le_refl _) _⟩
  · obtain ⟨a, c, rfl⟩ := h.slice
    go_enter Try.func12, Try.ntmps12
    go_wp2_with fail
    refine (szInt64SS_any _ _ _ _ hk h0 h1).mono ?_
    rintro e w' ⟨rfl, rfl⟩
    go_wp2
    go_ret
    exact ⟨rfl, (Below.refl _ _).alloc (Nat.le_refl _) _⟩

end Go.Proofs.Ytohjfcfcopbmoaa

/- Walks of the laws' own helpers: copies. -/
namespace Go.Proofs.Ytohjfcfcopbmoaa
open Go.RowKit

theorem Try.infoI : (Try.prog.info? 2).map (fun i => (i.zero, i.size, i.bytes)) = some (some (.int .i64 0), 1, 8) := by kernel_rfl
theorem Try.infoR : (Try.prog.info? 33).map (fun i => (i.zero, i.size, i.bytes)) = some (some (.slice none 0 0), 1, 24) := by kernel_rfl

set_option maxHeartbeats 400000 in
theorem toInt64S_any (v : Value) (xs : List Int) (w : World) (h : RowAt w v xs) (hs : xs.length ≤ 1048576) :
    Calls Try.prog 15 #[v] w fun e w' => e = .returned (.slice (some ⟨w.heap.size, 0, none⟩) xs.length xs.length) ∧ OwnRow 2 w' w.heap.size (.slice (some ⟨w.heap.size, 0, none⟩) xs.length xs.length) xs ∧ Below w.heap.size w w' ∧ w'.heap.size = w.heap.size + 1 := by
  have hI := h.1
  have HI := Lib.hid hI
  clear hI
  have hmk := run_make_row' (P := Try.prog) 33 2 (.int .i64 0) 8 Try.underlying33 Try.infoI rfl .i64 .i64 xs.length (by omega) (by omega)
  rcases h.elim with ⟨e, a, c, rfl⟩ | ⟨b, o, c, rfl, l1, l2, hc⟩
  · have HE := Lib.hid e
    rw [e]
    rw [e] at hmk
    simp only [Int.ofNat_zero] at hmk
    clear e
    go_enter Try.func15, Try.ntmps15
    go_wp2
    refine wp_loop_rounds 1 ?_
    rw [rounds_succ]
    go_wp2
    go_ret
    exact ⟨rfl, ⟨HI.out, by rw [HE.out]; exact Nat.zero_le _, Or.inr ⟨w.heap.size, 0, madeCells #[.int .i64 0] 0, by rw [HE.out], Nat.le_refl _, heap_alloc_new _ _, by rw [HE.out]; exact Nat.le_refl _, Nat.zero_le _, size_madeCells _ _, fun i hi => absurd hi (by rw [HE.out]; omega)⟩⟩, (Below.refl _ _).alloc (Nat.le_refl _) _, size_alloc1 _ _⟩
  · have hrow := World.rowIs_made w (.int .i64 0) xs.length 2
    have HC := Lib.hid hc
    have HR := Lib.hid hrow
    clear hc hrow
    go_enter Try.func15, Try.ntmps15
    go_wp2
    go_loopw [4] (fun i wr => ∃ k : Nat, k ≤ xs.length ∧ i = .int .i64 k ∧ wr.rowIs w.heap.size 2 xs.length (fun j => if j < k then .int .i64 (nth xs j) else .int .i64 0) ∧ Below w.heap.size w wr ∧ wr.heap.size = w.heap.size + 1)
      (fun i _ => xs.length - (intOf i).toNat)
    case atStart => exact ⟨0, Nat.zero_le _, rfl, HR.out.congr (fun i hi => by simp), (Below.refl _ _).alloc (Nat.le_refl _) _, size_alloc1 _ _⟩
    case round =>
      obtain ⟨k, hk, rfl, hr, hb, hsz⟩ := hrel
      have HR2 := Lib.hid hr
      have HB := Lib.hid hb
      have HS := Lib.hid hsz
      clear hsz
      by_cases hlt : k < xs.length
      · have hck := cell_keep hb (HC.out k hlt)
        have hcf := hr.frozen k
        have hcc := hr.cell hlt
        simp only [Nat.lt_irrefl, if_false] at hcc
        clear hr hb
        go_wp2
        go_roundw
        case rel =>
          refine ⟨k + 1, by omega, by go_num, (HR2.out.set k (.int .i64 (nth xs k))).congr (fun j hj => ?_), HB.out.setCell (Nat.le_refl _) _, by rw [size_setCell1]; exact HS.out⟩
          by_cases e : j = k
          · subst e; simp
          · simp only [e, if_false]
            by_cases h1 : j < k
            · simp [h1, Nat.lt_succ_of_lt h1]
            · simp [h1, show ¬ j < k + 1 from by omega]
        case measure => simp [intOf]; omega
      · obtain rfl : k = xs.length := by omega
        clear hr hb
        go_wp2
        go_ret
        exact ⟨rfl, OwnRow.of_rowIs HR2.out (Nat.le_refl _) rfl (by unfold maxLen; omega) HI.out (fun i hi => by simp [hi]), HB.out, HS.out⟩

/-- Row i of a copied grid that begins at block B. -/
def rowV (B : Nat) (L : List (List Int)) (i : Nat) : Value := .slice (some ⟨B + 1 + i, 0, none⟩) (nthR L i).length (nthR L i).length

theorem OwnRow.setCell {T : TypeId} {w : World} {B : Nat} {v : Value} {xs : List Int} (h : OwnRow T w B v xs) {a : Addr} (ha : v.ownBlock ≠ some a.block) (u : Value) : OwnRow T (w.setCell a u) B v xs := by
  obtain ⟨h1, h2, h3⟩ := h
  refine ⟨h1, h2, ?_⟩
  rcases h3 with h3 | ⟨g, cap, cur, e, hg, hh, r⟩
  · exact Or.inl h3
  · refine Or.inr ⟨g, cap, cur, e, hg, ?_, r⟩
    rw [heap_setCell_other]
    · exact hh
    · intro e2; apply ha; rw [e]; simp [Value.ownBlock, e2]

set_option maxHeartbeats 400000 in
theorem toInt64SS_any (v : Value) (L : List (List Int)) (w : World) (h : GridAt w v L) (hs : Small L) :
    Calls Try.prog 32 #[v] w fun e w' => e = .returned (.slice (some ⟨w.heap.size, 0, none⟩) L.length L.length) ∧ OwnGrid 2 33 w' w.heap.size (.slice (some ⟨w.heap.size, 0, none⟩) L.length L.length) L ∧ Below w.heap.size w w' := by
  have hs1 := hs.1
  have HS := Lib.hid hs
  clear hs
  have hmk := run_make_row' (P := Try.prog) 22 33 (.slice none 0 0) 24 Try.underlying22 Try.infoR rfl .i64 .i64 L.length (by omega) (by omega)
  rcases h.elim with ⟨e, a, c, rfl⟩ | ⟨b, o, c, A, C, rfl, l1, l2, hc⟩
  · have HE := Lib.hid e
    rw [e]
    rw [e] at hmk
    simp only [Int.ofNat_zero] at hmk
    clear e
    go_enter Try.func32, Try.ntmps32
    go_wp2
    refine wp_loop_rounds 1 ?_
    rw [rounds_succ]
    go_wp2
    go_ret
    exact ⟨rfl, ⟨rowV 0 L, by rw [HE.out]; exact Nat.zero_le _, Or.inr ⟨w.heap.size, 0, madeCells #[.slice none 0 0] 0, by rw [HE.out], Nat.le_refl _, heap_alloc_new _ _, by rw [HE.out]; exact Nat.le_refl _, Nat.zero_le _, size_madeCells _ _, fun i hi => absurd hi (by rw [HE.out]; omega)⟩,
      fun i hi => absurd hi (by rw [HE.out]; omega), fun i j k _ hj => absurd hj (by rw [HE.out]; omega)⟩, (Below.refl _ _).alloc (Nat.le_refl _) _⟩
  · have hrow := World.rowIs_made w (.slice none 0 0) L.length 33
    have HC := Lib.hid hc
    have HR := Lib.hid hrow
    clear hc hrow
    go_enter Try.func32, Try.ntmps32
    go_wp2
    go_loopw [4] (fun i wr => ∃ k : Nat, k ≤ L.length ∧ i = .int .i64 k ∧ wr.rowIs w.heap.size 33 L.length (fun j => if j < k then rowV w.heap.size L j else .slice none 0 0) ∧ (∀ j, j < k → OwnRow 2 wr (w.heap.size + 1 + j) (rowV w.heap.size L j) (nthR L j)) ∧ Below w.heap.size w wr ∧ wr.heap.size = w.heap.size + 1 + k)
      (fun i _ => L.length - (intOf i).toNat)
    case atStart => exact ⟨0, Nat.zero_le _, rfl, HR.out.congr (fun i hi => by simp), (fun j hj => absurd hj (by omega)), (Below.refl _ _).alloc (Nat.le_refl _) _, size_alloc1 _ _⟩
    case round =>
      obtain ⟨k, hk, rfl, hr, hrs, hb, hsz⟩ := hrel
      have HR2 := Lib.hid hr
      have HRS := Lib.hid hrs
      have HB := Lib.hid hb
      have HZ := Lib.hid hsz
      clear hsz hrs
      by_cases hlt : k < L.length
      · have hck := cell_keep hb (HC.out k hlt).1
        have hrk := (HC.out k hlt).2.keep hb
        clear hr hb
        go_wp2_with fail
        refine (toInt64S_any _ _ _ hrk (HS.out.2 k hlt)).mono ?_
        rintro e w1 ⟨rfl, ho, hb1, hz1⟩
        have HO := Lib.hid ho
        have HB1 := Lib.hid hb1
        have HZ1 := Lib.hid hz1
        have hr1 := HR2.out.of_block (w' := w1) (hb1.block _ HR2.out.lt)
        have HR3 := Lib.hid hr1
        have hcf := hr1.frozen k
        have hcc := hr1.cell hlt
        simp only [Nat.lt_irrefl, if_false] at hcc
        clear ho hb1 hz1 hr1 hrk
        go_wp2
        go_roundw
        case rel =>
          have ev : (Value.slice (some ⟨wr.heap.size, 0, none⟩) (nthR L k).length (nthR L k).length) = rowV w.heap.size L k := by rw [rowV, HZ.out]
          rw [ev]
          refine ⟨k + 1, by omega, by go_num, (HR3.out.set k (rowV w.heap.size L k)).congr (fun j hj => ?_), ?_, ((HB.out.trans (HB1.out.mono (by have := HZ.out; omega)))).setCell (Nat.le_refl _) _, by rw [size_setCell1, HZ1.out, HZ.out]; omega⟩
          · by_cases e : j = k
            · subst e; simp
            · simp only [e, if_false]
              by_cases h1 : j < k
              · simp [h1, Nat.lt_succ_of_lt h1]
              · simp [h1, show ¬ j < k + 1 from by omega]
          · intro j hj
            have hne : (rowV w.heap.size L j).ownBlock ≠ some w.heap.size := by simp [rowV, Value.ownBlock]; omega
            by_cases e : j = k
            · subst e
              refine OwnRow.setCell ?_ hne _
              have := HO.out
              rw [ev, HZ.out] at this
              exact this
            · exact OwnRow.setCell ((HRS.out j (by omega)).keep HB1.out) hne _
        case measure => simp [intOf]; omega
      · obtain rfl : k = L.length := by omega
        clear hr hb
        go_wp2
        go_ret
        obtain ⟨cur, c1, c2, c3⟩ := HR2.out
        refine ⟨rfl, ⟨rowV w.heap.size L, by unfold maxLen; omega, Or.inr ⟨w.heap.size, L.length, cur, rfl, Nat.le_refl _, c1, Nat.le_refl _, by unfold maxLen; omega, c2, fun i hi => by rw [c3 i hi]; simp [hi]⟩, fun i hi => (HRS.out i hi).mono (by omega), ?_⟩, HB.out⟩
        intro i j q hij hj hq
        simp [rowV, Value.ownBlock] at hq ⊢
        omega

end Go.Proofs.Ytohjfcfcopbmoaa

/- Walks of the laws' own helpers: a graph's copy, equality. -/
namespace Go.Proofs.Ytohjfcfcopbmoaa
open Go.RowKit

/-- A call has handed back a graph of its own make that reads L, and has turned nothing that was there. -/
def GaveGraph (w : World) (L : List (List Int)) (e : Ending) (w' : World) : Prop :=
  ∃ n a c, e = .returned (.agg #[.slice a n c]) ∧ OwnGrid 2 33 w' w.heap.size (.slice a n c) L ∧ Below w.heap.size w w'

/-- .. a slice of slices of its own make. -/
def GaveGrid (w : World) (L : List (List Int)) (e : Ending) (w' : World) : Prop :=
  ∃ n a c, e = .returned (.slice a n c) ∧ OwnGrid 2 33 w' w.heap.size (.slice a n c) L ∧ Below w.heap.size w w'

theorem toInt64SS_gave (v : Value) (L : List (List Int)) (w : World) (h : GridAt w v L) (hs : Small L) :
    Calls Try.prog 32 #[v] w (GaveGrid w L) :=
  (toInt64SS_any v L w h hs).mono fun _ _ ⟨h1, h2, h3⟩ => ⟨_, _, _, h1, h2, h3⟩

set_option maxHeartbeats 400000 in
theorem toGraph_any (v : Value) (L : List (List Int)) (w : World) (h : GridAt w v L) (hs : Small L) :
    Calls Try.prog 14 #[.agg #[v]] w (GaveGraph w L) := by
  obtain ⟨a, c, rfl⟩ := h.slice
  have hbel : Below w.heap.size w (((w.alloc (.cells #[.slice a L.length c] 32)).alloc (.cells #[.slice none 0 0] 37)).alloc (.cells #[.slice none 0 0] 37)) :=
    (((Below.refl _ _).alloc (Nat.le_refl _) _).alloc (by rw [size_alloc1]; omega) _).alloc (by rw [size_alloc1, size_alloc1]; omega) _
  have hk := h.keep hbel
  have HB := Lib.hid hbel
  clear hbel
  go_enter Try.func14, Try.ntmps14
  go_wp2_with fail
  refine (toInt64SS_gave _ _ _ hk hs).mono ?_
  rintro e w' ⟨n1, a1, c1, rfl, ho, hb⟩
  have z : w.heap.size + 1 + 1 + 1 ≤ w'.heap.size := by have := hb.size; simpa [size_alloc1] using this
  have k1 : w'.cell? ⟨w.heap.size + 1, 0, none⟩ = some (.slice none 0 0) := by rw [hb.cell (by simp)]; go_simp
  have k2 : w'.cell? ⟨w.heap.size + 1 + 1, 0, none⟩ = some (.slice none 0 0) := by rw [hb.cell (by simp)]; go_simp
  have f1 : w'.frozen? ⟨w.heap.size + 1, 0, none⟩ = false := by rw [hb.frozen (by simp)]; go_simp
  have f2 : w'.frozen? ⟨w.heap.size + 1 + 1, 0, none⟩ = false := by rw [hb.frozen (by simp)]; go_simp
  have HO := Lib.hid ho
  have HB1 := Lib.hid hb
  clear ho hb hk
  go_wp2
  have q0 : ((w'.setCell ⟨w.heap.size + 1 + 1, 0, none⟩ (.slice a1 n1 c1)).setCell ⟨w.heap.size + 1, 0, none⟩ (.slice a1 n1 c1)).cell? ⟨w.heap.size + 1, 0, none⟩ = some (.slice a1 n1 c1) :=
    cell_set_same _ (by rw [cell_set_other _ (by simp)]; exact k1)
  refine bodyPost_ret (v := .agg #[.slice a1 n1 c1]) (by simp [results, Try.results14, go_sem, q0]) rfl ⟨n1, a1, c1, rfl, ?_, ?_⟩
  · exact ((HO.out.setBelow (by simp) _).setBelow (by simp) _).mono (by simp; omega)
  · exact ((HB.out.trans (HB1.out.mono (by simp; omega))).setCell (by simp; omega) _).setCell (by simp) _

/-! ### Equality -/

set_option maxHeartbeats 400000 in
theorem eqInt64S_any (v v' : Value) (xs ys : List Int) (w : World) (h : RowAt w v xs) (h' : RowAt w v' ys) :
    Calls Try.prog 18 #[v, v'] w fun e w' => e = .returned (.bool (decide (xs = ys))) ∧ Drawn w w' := by
  have hl := h.len
  have hl' := h'.len
  unfold maxLen at hl hl'
  by_cases hn : xs.length = ys.length
  · have hne : ((xs.length : Int) != (ys.length : Int)) = false := by rw [hn]; simp
    by_cases h0 : xs.length = 0
    · have hd : decide (xs = ys) = true := by rw [decide_eq_true_iff, List.length_eq_zero_iff.1 h0, List.length_eq_zero_iff.1 (by omega : ys.length = 0)]
      rw [hd]
      obtain ⟨a, c, rfl⟩ := h.zero h0
      obtain ⟨a', c', rfl⟩ := h'.zero (by omega)
      clear hn hne h h' h0 hl hl' hd
      go_enter Try.func18, Try.ntmps18
      go_wp2
      refine wp_loop_rounds 1 ?_
      rw [rounds_succ]
      go_wp2
      go_ret
      exact ⟨rfl, Drawn.refl _⟩
    · obtain ⟨b, o, c, rfl, l1, l2, hc⟩ := h.pos (by omega)
      obtain ⟨b', o', c', rfl, l1', l2', hc'⟩ := h'.pos (by omega)
      have HC := Lib.hid hc
      have HC' := Lib.hid hc'
      have HN := Lib.hid hn
      have hle : xs.length ≤ ys.length := by omega
      clear hc hc' hn h0
      go_enter Try.func18, Try.ntmps18
      go_wp2
      go_loopw [5] (fun i wr => ∃ k : Nat, k ≤ xs.length ∧ i = .int .i64 k ∧ (∀ j, j < k → nth xs j = nth ys j) ∧ Drawn w wr) (fun i _ => xs.length - (intOf i).toNat)
      case atStart => exact ⟨0, Nat.zero_le _, rfl, (fun j hj => absurd hj (by omega)), Drawn.refl _⟩
      case round =>
        obtain ⟨k, hk, rfl, he, hd⟩ := hrel
        have HE := Lib.hid he
        clear he
        by_cases hlt : k < xs.length
        · have hlt' : k < ys.length := by omega
          have hck := cell_drawn hd (HC.out k hlt)
          have hck' := cell_drawn hd (HC'.out k hlt')
          by_cases hx : nth xs k = nth ys k
          · have hxb : (nth xs k != nth ys k) = false := by rw [hx]; simp
            have HX := Lib.hid hx
            clear hx
            go_wp2
            go_quiet (fail)
            go_wp2
            go_roundw
            case rel => exact ⟨k + 1, by omega, by go_num, (fun j hj => by rcases Nat.lt_succ_iff_lt_or_eq.1 hj with h | h; exact HE.out j h; rw [h]; exact HX.out), hd.more _⟩
            case measure => simp [intOf]; omega
          · have hxb : (nth xs k != nth ys k) = true := by rw [bne_iff_ne]; exact hx
            have HX := Lib.hid hx
            clear hx
            go_wp2
            go_quiet (fail)
            go_wp2
            go_ret
            exact ⟨ret_bool (by symm; rw [decide_eq_false_iff_not]; intro e; exact HX.out (by rw [e])), hd.more _⟩
        · obtain rfl : k = xs.length := by omega
          go_wp2
          go_ret
          exact ⟨ret_bool (by symm; rw [decide_eq_true_iff]; exact nth_ext HN.out HE.out), hd⟩
  · have hne : ((xs.length : Int) != (ys.length : Int)) = true := by rw [bne_iff_ne]; omega
    have hd : decide (xs = ys) = false := by simp; intro e; exact hn (by rw [e])
    rw [hd]
    obtain ⟨a, c, rfl⟩ := h.slice
    obtain ⟨a', c', rfl⟩ := h'.slice
    go_enter Try.func18, Try.ntmps18
    go_wp2
    go_ret
    exact ⟨rfl, Drawn.refl _⟩

set_option maxHeartbeats 400000 in
theorem eqInt64SS_any (v v' : Value) (xs ys : List (List Int)) (w : World) (h : GridAt w v xs) (h' : GridAt w v' ys) :
    Calls Try.prog 27 #[v, v'] w fun e w' => e = .returned (.bool (decide (xs = ys))) ∧ Drawn w w' := by
  have hl := h.len
  have hl' := h'.len
  unfold maxLen at hl hl'
  by_cases hn : xs.length = ys.length
  · have hne : ((xs.length : Int) != (ys.length : Int)) = false := by rw [hn]; simp
    by_cases h0 : xs.length = 0
    · have hd : decide (xs = ys) = true := by rw [decide_eq_true_iff, List.length_eq_zero_iff.1 h0, List.length_eq_zero_iff.1 (by omega : ys.length = 0)]
      rw [hd]
      obtain ⟨a, c, rfl⟩ := h.zero h0
      obtain ⟨a', c', rfl⟩ := h'.zero (by omega)
      clear hn hne h h' h0 hl hl' hd
      go_enter Try.func27, Try.ntmps27
      go_wp2
      refine wp_loop_rounds 1 ?_
      rw [rounds_succ]
      go_wp2
      go_ret
      exact ⟨rfl, Drawn.refl _⟩
    · obtain ⟨b, o, c, A, C, rfl, l1, l2, hc⟩ := h.pos (by omega)
      obtain ⟨b', o', c', A', C', rfl, l1', l2', hc'⟩ := h'.pos (by omega)
      have HC := Lib.hid hc
      have HC' := Lib.hid hc'
      have HN := Lib.hid hn
      have hle : xs.length ≤ ys.length := by omega
      clear hc hc' hn h0
      go_enter Try.func27, Try.ntmps27
      go_wp2
      go_loopw [5] (fun i wr => ∃ k : Nat, k ≤ xs.length ∧ i = .int .i64 k ∧ (∀ j, j < k → nthR xs j = nthR ys j) ∧ Drawn w wr) (fun i _ => xs.length - (intOf i).toNat)
      case atStart => exact ⟨0, Nat.zero_le _, rfl, (fun j hj => absurd hj (by omega)), Drawn.refl _⟩
      case round =>
        obtain ⟨k, hk, rfl, he, hd⟩ := hrel
        have HE := Lib.hid he
        clear he
        by_cases hlt : k < xs.length
        · have hlt' : k < ys.length := by omega
          have hck := cell_drawn hd (HC.out k hlt).1
          have hck' := cell_drawn hd (HC'.out k hlt').1
          have hr := Lib.hid ((HC.out k hlt).2.drawn hd)
          have hr' := Lib.hid ((HC'.out k hlt').2.drawn hd)
          by_cases hx : nthR xs k = nthR ys k
          · have hxb : decide (nthR xs k = nthR ys k) = true := by rw [hx]; simp
            have hcall : ∀ n, Calls Try.prog 18 #[.slice (A k) (nthR xs k).length (C k), .slice (A' k) (nthR ys k).length (C' k)] (wr.drewN n) fun e w2 => e = .returned (.bool true) ∧ ∃ m, w2 = (wr.drewN n).drewN m :=
              fun n => (eqInt64S_any _ _ _ _ _ (hr.out.drewN n) (hr'.out.drewN n)).mono (by rintro e w2 ⟨rfl, hd2⟩; exact ⟨by rw [hxb], hd2⟩)
            have HCall := Lib.hid hcall
            clear hcall hxb
            have HX := Lib.hid hx
            clear hx
            go_wp2
            go_quiet ((go_at_call 18; exact Calls.quiet_of (HCall.out _)))
            go_wp2
            go_roundw
            case rel => exact ⟨k + 1, by omega, by go_num, (fun j hj => by rcases Nat.lt_succ_iff_lt_or_eq.1 hj with h | h; exact HE.out j h; rw [h]; exact HX.out), hd.more _⟩
            case measure => simp [intOf]; omega
          · have hxb : decide (nthR xs k = nthR ys k) = false := by rw [decide_eq_false_iff_not]; exact hx
            have hcall : ∀ n, Calls Try.prog 18 #[.slice (A k) (nthR xs k).length (C k), .slice (A' k) (nthR ys k).length (C' k)] (wr.drewN n) fun e w2 => e = .returned (.bool false) ∧ ∃ m, w2 = (wr.drewN n).drewN m :=
              fun n => (eqInt64S_any _ _ _ _ _ (hr.out.drewN n) (hr'.out.drewN n)).mono (by rintro e w2 ⟨rfl, hd2⟩; exact ⟨by rw [hxb], hd2⟩)
            have HCall := Lib.hid hcall
            clear hcall hxb
            have HX := Lib.hid hx
            clear hx
            go_wp2
            go_quiet ((go_at_call 18; exact Calls.quiet_of (HCall.out _)))
            go_wp2
            go_ret
            exact ⟨ret_bool (by symm; rw [decide_eq_false_iff_not]; intro e; exact HX.out (by rw [e])), hd.more _⟩
        · obtain rfl : k = xs.length := by omega
          go_wp2
          go_ret
          exact ⟨ret_bool (by symm; rw [decide_eq_true_iff]; exact nthR_ext HN.out HE.out), hd⟩
  · have hne : ((xs.length : Int) != (ys.length : Int)) = true := by rw [bne_iff_ne]; omega
    have hd : decide (xs = ys) = false := by simp; intro e; exact hn (by rw [e])
    rw [hd]
    obtain ⟨a, c, rfl⟩ := h.slice
    obtain ⟨a', c', rfl⟩ := h'.slice
    go_enter Try.func27, Try.ntmps27
    go_wp2
    go_ret
    exact ⟨rfl, Drawn.refl _⟩

end Go.Proofs.Ytohjfcfcopbmoaa

/- Walks: a graph's equality; the model's small words on sets. -/
namespace Go.Proofs.Ytohjfcfcopbmoaa
open Go.RowKit

set_option maxHeartbeats 400000 in
theorem eqGraph_any (v v' : Value) (L M : List (List Int)) (w : World) (h : GridAt w v L) (h' : GridAt w v' M) :
    Calls Try.prog 17 #[.agg #[v], .agg #[v']] w fun e w' => e = .returned (.bool (decide (L = M))) ∧ Below w.heap.size w w' := by
  obtain ⟨a, c, rfl⟩ := h.slice
  obtain ⟨a', c', rfl⟩ := h'.slice
  have hbel : Below w.heap.size w ((w.alloc (.cells #[.slice a L.length c] 37)).alloc (.cells #[.slice a' M.length c'] 37)) :=
    ((Below.refl _ _).alloc (Nat.le_refl _) _).alloc (by rw [size_alloc1]; omega) _
  have hk := h.keep hbel
  have hk' := h'.keep hbel
  have HB := Lib.hid hbel
  clear hbel
  by_cases hx : L = M
  · have HD : Hid (decide (L = M) = true) := by show decide (L = M) = true; simp [hx]
    clear hx
    go_enter Try.func17, Try.ntmps17
    go_wp2_with fail
    refine (eqInt64SS_any _ _ _ _ _ hk hk').mono ?_
    rintro e w' ⟨rfl, hd⟩
    rw [HD.out]
    go_wp2
    go_ret
    exact ⟨ret_bool HD.out.symm, HB.out.trans (hd.below _)⟩
  · have HD : Hid (decide (L = M) = false) := by show decide (L = M) = false; simp [hx]
    clear hx
    go_enter Try.func17, Try.ntmps17
    go_wp2_with fail
    refine (eqInt64SS_any _ _ _ _ _ hk hk').mono ?_
    rintro e w' ⟨rfl, hd⟩
    rw [HD.out]
    go_wp2
    go_ret
    exact ⟨ret_bool HD.out.symm, HB.out.trans (hd.below _)⟩

/-- lo ≤ x ≤ hi. -/
def inB (x lo hi : Int) : Bool := decide (lo ≤ x ∧ x ≤ hi)

theorem l1In_any (x lo hi : Int) (w : World) : Calls Try.prog 65 #[.int .i64 x, .int .i64 lo, .int .i64 hi] w fun e w' => e = .returned (.bool (inB x lo hi)) ∧ w = w' := by
  by_cases h1 : lo ≤ x
  · by_cases h2 : x ≤ hi
    · have e : inB x lo hi = true := by simp [inB, h1, h2]
      rw [e]
      go_enter Try.func65, Try.ntmps65
      go_wp2
      go_ret
      exact ⟨rfl, rfl⟩
    · have e : inB x lo hi = false := by simp [inB, h2]
      have d2 : decide (x ≤ hi) = false := by simpa using h2
      rw [e]
      go_enter Try.func65, Try.ntmps65
      go_wp2
      go_ret
      exact ⟨rfl, rfl⟩
  · have e : inB x lo hi = false := by simp [inB, h1]
    have d1 : decide (lo ≤ x) = false := by simpa using h1
    rw [e]
    go_enter Try.func65, Try.ntmps65
    go_wp2
    go_ret
    exact ⟨rfl, rfl⟩

set_option maxHeartbeats 400000 in
theorem l1Size_any (v : Value) (L : List (List Int)) (w : World) (h : GridAt w v L) :
    Calls Try.prog 55 #[.agg #[v]] w fun e w' => e = .returned (.int .i64 L.length) ∧ Below w.heap.size w w' := by
  have hl := h.len
  unfold maxLen at hl
  obtain ⟨a, c, rfl⟩ := h.slice
  go_enter Try.func55, Try.ntmps55
  go_wp2
  go_ret
  exact ⟨rfl, (Below.refl _ _).alloc (Nat.le_refl _) _⟩

/-- Is n an element? -/
def hasB (xs : List Int) (n : Int) : Bool := decide (∃ i, i < xs.length ∧ nth xs i = n)

set_option maxHeartbeats 400000 in
theorem l1Has_any (v : Value) (xs : List Int) (n : Int) (w : World) (h : RowAt w v xs) :
    Calls Try.prog 37 #[v, .int .i64 n] w fun e w' => e = .returned (.bool (hasB xs n)) ∧ w = w' := by
  have hl := h.len
  unfold maxLen at hl
  by_cases h0 : xs.length = 0
  · have e : hasB xs n = false := by simp [hasB, h0]
    rw [e]
    obtain ⟨a, c, rfl⟩ := h.zero h0
    clear h h0 hl e
    go_enter Try.func37, Try.ntmps37
    go_wp2
    refine wp_loop_rounds 1 ?_
    rw [rounds_succ]
    go_wp2
    go_ret
    exact ⟨rfl, rfl⟩
  · obtain ⟨b, o, c, rfl, l1, l2, hc⟩ := h.pos (by omega)
    have HC := Lib.hid hc
    clear hc h0
    go_enter Try.func37, Try.ntmps37
    go_wp2
    go_loop [5] (fun i => ∃ k : Nat, k ≤ xs.length ∧ i = .int .i64 k ∧ (∀ j, j < k → nth xs j ≠ n)) (fun i => xs.length - (intOf i).toNat)
    case atStart => exact ⟨0, Nat.zero_le _, rfl, (fun j hj => absurd hj (by omega))⟩
    case round =>
      obtain ⟨k, hk, rfl, he⟩ := hrel
      have HE := Lib.hid he
      clear he
      by_cases hlt : k < xs.length
      · have hck := HC.out k hlt
        by_cases hx : nth xs k = n
        · have hxb : (nth xs k == n) = true := by rw [hx]; simp
          have HX := Lib.hid hx
          clear hx
          go_wp2
          go_ret
          exact ⟨ret_bool (by symm; rw [hasB, decide_eq_true_iff]; exact ⟨k, hlt, HX.out⟩), rfl⟩
        · have hxb : (nth xs k == n) = false := by rw [beq_eq_false_iff_ne]; exact hx
          have HX := Lib.hid hx
          clear hx
          go_wp2
          go_round
          case rel => exact ⟨k + 1, by omega, by go_num, (fun j hj => by rcases Nat.lt_succ_iff_lt_or_eq.1 hj with h | h; exact HE.out j h; rw [h]; exact HX.out)⟩
          case measure => simp [intOf]; omega
      · obtain rfl : k = xs.length := by omega
        go_wp2
        go_ret
        exact ⟨ret_bool (by symm; rw [hasB, decide_eq_false_iff_not]; rintro ⟨i, hi, e⟩; exact HE.out i hi e), rfl⟩

end Go.Proofs.Ytohjfcfcopbmoaa
