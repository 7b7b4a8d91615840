/- The texts N3, N4, N5, N6, N7, N8, N9, P1, joined. -/
import Derived.Test.YtojbaepcflkgeaaQM4
import Derived.Laws.CopyOwn
import Derived.Test.YtojbaepcflkgeaaQM9
import Derived.Deep.DeepCutAuto
import Derived.ArgAppend
import Derived.Deep.AppendLies

/- Walks: the program's copies. -/
namespace Go.Proofs.Ytojbaepcflkgeaa
open Go.RowKit

theorem Try.sizeI : (Try.prog.info? 2).map (·.size) = some 1 := by kernel_rfl

/-- The first k rows; the rest empty. -/
def cpL (L : List (List Int)) (k : Nat) : List (List Int) := (List.range L.length).map (fun i => if i < k then nthR L i else [])
theorem cpL_len (L : List (List Int)) (k : Nat) : (cpL L k).length = L.length := by simp [cpL]
theorem cpL_nth {L : List (List Int)} (k : Nat) {i : Nat} (hi : i < L.length) : nthR (cpL L k) i = if i < k then nthR L i else [] := by simp [cpL, nthR, hi]
theorem cpL_set (L : List (List Int)) (k : Nat) : (cpL L k).set k (nthR L k) = cpL L (k + 1) := by
  apply nthR_ext
  · simp [cpL_len]
  · intro i hi
    rw [List.length_set, cpL_len] at hi
    rw [cpL_nth (k + 1) hi]
    unfold nthR
    rw [List.getD_eq_getElem?_getD]
    by_cases e : k = i
    · subst e
      rw [List.getElem?_set_self (by rw [cpL_len]; exact hi)]
      simp
    · rw [List.getElem?_set_ne e]
      have := cpL_nth (L := L) k hi
      unfold nthR at this
      rw [List.getD_eq_getElem?_getD] at this
      rw [this]
      by_cases h : i < k
      · simp [h, Nat.lt_succ_of_lt h]
      · simp [h, show ¬ i < k + 1 from by omega]
theorem cpL_all (L : List (List Int)) : cpL L L.length = L := by
  apply nthR_ext
  · rw [cpL_len]
  · intro i hi
    rw [cpL_len] at hi
    rw [cpL_nth _ hi, if_pos hi]
theorem own_madeC (w : World) (L : List (List Int)) (hn : L.length ≤ 1048576) : OwnGrid 2 35 (w.alloc (.cells (madeCells #[.slice none 0 0] L.length) 35)) w.heap.size (.slice (some ⟨w.heap.size, 0, none⟩) L.length L.length) (cpL L 0) := by
  obtain ⟨cur, c1, c2, c3⟩ := World.rowIs_made w (.slice none 0 0) L.length 35
  refine ⟨fun _ => .slice none 0 0, by rw [cpL_len]; unfold maxLen; omega, Or.inr ⟨w.heap.size, L.length, cur, by rw [cpL_len], Nat.le_refl _, c1, by rw [cpL_len]; exact Nat.le_refl _, by unfold maxLen; omega, c2, fun i hi => by rw [cpL_len] at hi; rw [c3 i hi]⟩, fun i hi => ?_, fun i j k _ _ hk => by cases hk⟩
  rw [cpL_len] at hi
  rw [cpL_nth 0 hi, if_neg (by omega)]
  exact ⟨by simp, by simp, Or.inl ⟨rfl, rfl⟩⟩

end Go.Proofs.Ytojbaepcflkgeaa

/- Walks: an edge cut. -/
namespace Go.Proofs.Ytojbaepcflkgeaa
open Go.RowKit

/-- The boxes of a function at work on a copy: its graph's, its result's, that of the copy, and the copy. -/
structure WorkL (w0 : World) (v : Value) (bo B g n cg : Nat) (L : List (List Int)) (w : World) : Prop where
  two : Two w0 v w
  box : BoxT 30 w bo (.slice (some ⟨g, 0, none⟩) n cg)
  own : OwnGrid 2 35 w B (.slice (some ⟨g, 0, none⟩) n cg) L
  low : w0.heap.size + 1 < B
theorem WorkL.keep {w0 : World} {v : Value} {bo B g n cg : Nat} {L : List (List Int)} {w w' : World} (h : WorkL w0 v bo B g n cg L w) (hb : Below w.heap.size w w') : WorkL w0 v bo B g n cg L w' :=
  ⟨h.two.keep hb, h.box.keep hb, h.own.keep hb, h.low⟩
theorem WorkL.ne {w0 : World} {v : Value} {bo B g n cg : Nat} {L : List (List Int)} {w : World} (h : WorkL w0 v bo B g n cg L w) : bo ≠ g := by
  obtain ⟨cur, hcur⟩ := h.own.blkT
  intro e
  rw [← e] at hcur
  have hbb : w.heap[bo]? = _ := h.box
  rw [hcur] at hbb
  simp at hbb
theorem WorkL.at {w0 : World} {v : Value} {bo B g n cg : Nat} {L : List (List Int)} {w : World} (h : WorkL w0 v bo B g n cg L w) {i : Nat} (hi : i < L.length) :
    B ≤ g ∧ g < w.heap.size ∧ ∃ a m c, w.cell? ⟨g, i, none⟩ = some (.slice a m c) ∧ w.frozen? ⟨g, i, none⟩ = false ∧ OwnRow 2 w B (.slice a m c) (nthR L i) := by
  obtain ⟨g', cap', eg, hB, hgs, hcell⟩ := h.own.place (by omega)
  simp only [Value.slice.injEq, Option.some.injEq, Addr.mk.injEq, and_true] at eg
  obtain ⟨rfl, _, _⟩ := eg
  exact ⟨hB, hgs, hcell i hi⟩
theorem WorkL.set {w0 : World} {v : Value} {bo B g n cg : Nat} {L : List (List Int)} {w w' : World} (h : WorkL w0 v bo B g n cg L w) (hb : Below w.heap.size w w') {rv : Value} {xs : List Int} (hr : OwnRow 2 w' w.heap.size rv xs) {i : Nat} (hi : i < L.length) :
    WorkL w0 v bo B g n cg (L.set i xs) (w'.setCell ⟨g, i, none⟩ rv) := by
  obtain ⟨hB, hgs, _⟩ := h.at hi
  have hlow := h.low
  have h1 := h.keep hb
  exact ⟨⟨h1.two.arg.setOther (by simp; omega) _, h1.two.res.setOther (by simp; omega) _, h1.two.bel.setCell (by simp; omega) _⟩, h1.box.setOther h.ne _, h.own.setRow (by decide) hb hi (hr.mono (by omega)) (fun k hk => Or.inl (hr.lt k hk).1), hlow⟩

/-- Two different vertices of a graph. -/
def pairB (L : List (List Int)) (u x : Int) : Bool := decide (GraphP L) && inB u 0 ((L.length : Int) - 1) && inB x 0 ((L.length : Int) - 1) && (u != x)

end Go.Proofs.Ytojbaepcflkgeaa

/- Walks: an edge cut: the model's and the program's. -/
namespace Go.Proofs.Ytojbaepcflkgeaa
open Go.RowKit

theorem cell_set_blk {w : World} {a b : Addr} {u : Value} (v : Value) (hne : a.block ≠ b.block) (h : w.cell? b = some u) : (w.setCell a v).cell? b = some u :=
  (cell_set_other v (fun e => hne (congrArg Addr.block e))).trans h
theorem hasB_ne {L : List (List Int)} (hG : GraphP L) {u x : Int} (h0 : 0 ≤ u) (h1 : u < (L.length : Int)) (h : hasB (nthR L u.toNat) x = true) : u ≠ x := by
  intro e
  subst e
  have := (hG.2.1 u.toNat (by omega)).2
  rw [Int.toNat_of_nonneg h0, h] at this
  cases this
theorem edgeB_pair (L : List (List Int)) (u x : Int) : edgeB L u x = (pairB L u x && hasB (nthR L u.toNat) x) := by
  unfold edgeB pairB
  by_cases hG : GraphP L
  · by_cases hu : inB u 0 ((L.length : Int) - 1) = true
    · cases hh : hasB (nthR L u.toNat) x with
      | false => simp
      | true =>
        have hu' : 0 ≤ u ∧ u ≤ (L.length : Int) - 1 := by simpa [inB] using hu
        have hne := hasB_ne hG hu'.1 (by omega) hh
        have : (u != x) = true := by rw [bne_iff_ne]; exact hne
        rw [this]; simp
    · have hu' : inB u 0 ((L.length : Int) - 1) = false := by simpa using hu
      rw [hu']; simp
  · rw [decide_eq_false hG]; simp
theorem edgeB_nat {L : List (List Int)} {u x : Int} (h : edgeB L u x = true) : GraphP L ∧ ∃ p q : Nat, u = (p : Int) ∧ x = (q : Int) ∧ p < L.length ∧ q < L.length ∧ p ≠ q := by
  unfold edgeB inB at h
  simp at h
  obtain ⟨⟨⟨hG, hu⟩, hx⟩, hh⟩ := h
  have hne := hasB_ne hG hu.1 (by omega) hh
  exact ⟨hG, u.toNat, x.toNat, by omega, by omega, by omega, by omega, by omega⟩

/-- The graph without the edge. -/
def cutEL (L : List (List Int)) (u x : Int) : List (List Int) := if edgeB L u x = true then (L.set u.toNat (wo (nthR L u.toNat) x)).set x.toNat (wo (nthR L x.toNat) u) else []
theorem cutEL_no {L : List (List Int)} {u x : Int} (h : edgeB L u x = false) : cutEL L u x = [] := by rw [cutEL, h]; rfl
theorem nthR_set_ne {L : List (List Int)} {i j : Nat} (xs : List Int) (h : i ≠ j) : nthR (L.set i xs) j = nthR L j := by
  unfold nthR
  rw [List.getD_eq_getElem?_getD, List.getD_eq_getElem?_getD, List.getElem?_set_ne h]
theorem small_set {L : List (List Int)} (h : Small L) {i : Nat} {xs : List Int} (hx : xs.length ≤ 1048576) : Small (L.set i xs) := by
  refine ⟨by rw [List.length_set]; exact h.1, fun j hj => ?_⟩
  rw [List.length_set] at hj
  by_cases e : i = j
  · subst e
    unfold nthR
    rw [List.getD_eq_getElem?_getD, List.getElem?_set_self hj]
    exact hx
  · rw [nthR_set_ne xs e]; exact h.2 j hj
theorem row_small {L : List (List Int)} (hG : GraphP L) {i : Nat} (hi : i < L.length) : (nthR L i).length ≤ 16 := by rw [← row_list hG hi]; exact listM_len _
theorem cutEL_small (L : List (List Int)) (u x : Int) : Small (cutEL L u x) := by
  unfold cutEL
  split
  · rename_i h
    obtain ⟨hG, p, q, rfl, rfl, hp, hq, _⟩ := edgeB_nat h
    have h1 := wo_len (nthR L (p : Int).toNat) (q : Int)
    have h2 := wo_len (nthR L (q : Int).toNat) (p : Int)
    rw [Int.toNat_natCast] at h1 h2 ⊢
    have h3 := row_small hG hp
    have h4 := row_small hG hq
    exact small_set (small_set (graph_small hG) (by omega)) (by rw [Int.toNat_natCast]; omega)
  · exact ⟨by simp, fun i hi => absurd hi (by simp)⟩

/-- A copy laid and boxed. -/
theorem WorkL.start {w0 w w2 : World} {v : Value} {a2 : Option Addr} {n2 c2 : Nat} {L : List (List Int)} (ht : Two w0 v w) (hb : Below w.heap.size w w2) (ho : OwnGrid 2 35 w2 w.heap.size (.slice a2 n2 c2) L) (hl : 0 < L.length) :
    n2 = L.length ∧ ∃ g, a2 = some ⟨g, 0, none⟩ ∧ WorkL w0 v w2.heap.size w.heap.size g L.length c2 L (w2.alloc (.cells #[.slice (some ⟨g, 0, none⟩) L.length c2] 30)) := by
  obtain ⟨g, cap, eg, hB, hgs, _⟩ := ho.place hl
  simp only [Value.slice.injEq] at eg
  obtain ⟨rfl, rfl, rfl⟩ := eg
  have hbw : Below w2.heap.size w2 (w2.alloc (.cells #[.slice (some ⟨g, 0, none⟩) L.length c2] 30)) := (Below.refl _ _).alloc (Nat.le_refl _) _
  exact ⟨rfl, g, rfl, (ht.keep hb).keep hbw, BoxT.new _ _ _, ho.keep hbw, ht.lt⟩
theorem WorkL.done {w0 : World} {v : Value} {bo B g n cg : Nat} {L : List (List Int)} {w : World} (h : WorkL w0 v bo B g n cg L w) {ok : Bool} (hok : ok = true) : GaveGB w0 L ok (.returned (.tuple #[.agg #[.slice (some ⟨g, 0, none⟩) n cg], .bool true])) (w.setCell ⟨w0.heap.size + 1, 0, none⟩ (.slice (some ⟨g, 0, none⟩) n cg)) :=
  h.two.yes h.own h.low hok

end Go.Proofs.Ytojbaepcflkgeaa

/- Walks: slices.BinarySearch over a rising row. -/
namespace Go.Proofs.Ytojbaepcflkgeaa
open Go.RowKit

theorem isNaNc_any (x : Int) (w : World) : Calls Try.prog 153 #[.int .i64 x] w fun e w' => e = .returned (.bool false) ∧ w = w' := by
  have hx : (x != x) = false := by simp
  go_enter Try.func153, Try.ntmps153
  go_wp2
  go_ret
  exact ⟨rfl, rfl⟩
theorem less_any (x y : Int) (w : World) : Calls Try.prog 130 #[.int .i64 x, .int .i64 y] w fun e w' => e = .returned (.bool (decide (x < y))) ∧ w = w' := by
  go_enter Try.func130, Try.ntmps130
  go_wp2_with fail
  refine (isNaNc_any _ _).mono ?_
  rintro e w' ⟨rfl, rfl⟩
  go_wp2
  go_ret
  exact ⟨rfl, rfl⟩

/-- The place of x in a rising row: what is before it is less, what is from it on is not; and a bool. -/
def BsPost (w : World) (xs : List Int) (x : Int) (e : Ending) (w' : World) : Prop :=
  ∃ (k : Nat) (b : Bool), k ≤ xs.length ∧ (∀ j, j < k → nth xs j < x) ∧ (∀ j, k ≤ j → j < xs.length → x ≤ nth xs j) ∧ e = .returned (.tuple #[.int .i64 k, .bool b]) ∧ w = w'

end Go.Proofs.Ytojbaepcflkgeaa

/- Walks: a number put into a rising row by the program. -/
namespace Go.Proofs.Ytojbaepcflkgeaa
open Go.RowKit

/-- Where x stands in a rising row, and the row with it. -/
def WithPost (w : World) (xs : List Int) (x : Int) (e : Ending) (w' : World) : Prop :=
  ∃ k, k ≤ xs.length ∧ (∀ j, j < k → nth xs j < x) ∧ (∀ j, k ≤ j → j < xs.length → x ≤ nth xs j) ∧ GaveRow w (xs.take k ++ x :: xs.drop k) e w'

end Go.Proofs.Ytojbaepcflkgeaa

/- Walks: an edge added. -/
namespace Go.Proofs.Ytojbaepcflkgeaa
open Go.RowKit

theorem listM_rise (M : Nat) : ∀ i j, i < j → j < (listM M).length → nth (listM M) i < nth (listM M) j := by
  intro i j hij hj
  have := List.pairwise_iff_getElem.1 (listM_set M).pairwise i j (by omega) hj hij
  rwa [nth_eq (by omega), nth_eq hj]
/-- May this edge be added? -/
def addB (L : List (List Int)) (u x : Int) : Bool := pairB L u x && !hasB (nthR L u.toNat) x
/-- The graph with it. -/
def addEL (L : List (List Int)) (u x : Int) : List (List Int) := if addB L u x = true then (L.set u.toNat (listM (rowM L u.toNat ||| 2 ^ x.toNat))).set x.toNat (listM (rowM L x.toNat ||| 2 ^ u.toNat)) else []
theorem addEL_no {L : List (List Int)} {u x : Int} (h : addB L u x = false) : addEL L u x = [] := by rw [addEL, h]; rfl
theorem pairB_nat {L : List (List Int)} {u x : Int} (h : pairB L u x = true) : GraphP L ∧ ∃ p q : Nat, u = (p : Int) ∧ x = (q : Int) ∧ p < L.length ∧ q < L.length ∧ p ≠ q := by
  unfold pairB inB at h
  simp at h
  obtain ⟨⟨⟨hG, hu⟩, hx⟩, hne⟩ := h
  exact ⟨hG, u.toNat, x.toNat, by omega, by omega, by omega, by omega, by omega⟩
theorem addB_nat {L : List (List Int)} {u x : Int} (h : addB L u x = true) : GraphP L ∧ ∃ p q : Nat, u = (p : Int) ∧ x = (q : Int) ∧ p < L.length ∧ q < L.length ∧ p ≠ q ∧ adjB L p q = false := by
  unfold addB at h
  rw [Bool.and_eq_true, Bool.not_eq_true'] at h
  obtain ⟨hG, p, q, rfl, rfl, hp, hq, hpq⟩ := pairB_nat h.1
  refine ⟨hG, p, q, rfl, rfl, hp, hq, hpq, ?_⟩
  have := h.2
  have hz := hG.1
  rwa [Int.toNat_natCast, adjB_has hG hp (by omega)] at this
theorem addEL_small (L : List (List Int)) (u x : Int) : Small (addEL L u x) := by
  unfold addEL
  split
  · rename_i h
    obtain ⟨hG, p, q, rfl, rfl, hp, hq, _, _⟩ := addB_nat h
    exact small_set (small_set (graph_small hG) (by have := listM_len (rowM L (p : Int).toNat ||| 2 ^ (q : Int).toNat); omega)) (by have := listM_len (rowM L (q : Int).toNat ||| 2 ^ (p : Int).toNat); omega)
  · exact ⟨by simp, fun i hi => absurd hi (by simp)⟩
theorem Two.keepB {w0 : World} {v : Value} {w w' : World} {B : Nat} (h : Two w0 v w) (hb : Below B w w') (hB : w0.heap.size + 1 < B) : Two w0 v w' :=
  ⟨h.arg.keepB hb (by omega), h.res.keepB hb hB, h.bel.trans (hb.mono (by omega))⟩

end Go.Proofs.Ytojbaepcflkgeaa

/- Walks: a vertex added: the model's. -/
namespace Go.Proofs.Ytojbaepcflkgeaa
open Go.RowKit

/-- May a vertex with these neighbours be added? -/
def avB (L : List (List Int)) (xs : List Int) : Bool := setB L xs && !((L.length : Int) == 16)
theorem avB_yes {L : List (List Int)} {xs : List Int} (h : avB L xs = true) : GraphP L ∧ SetP xs L.length ∧ L.length < 16 ∧ xs.length ≤ 16 := by
  unfold avB setB at h
  simp at h
  have := h.1.2.len (by omega)
  have := h.1.1.1
  exact ⟨h.1.1, h.1.2, by omega, by omega⟩
/-- Who is near whom when the new vertex has been joined to ys. -/
def avA (L : List (List Int)) (ys : List Int) (i j : Nat) : Bool := adjB L i j || (i == L.length && hasB ys (j : Int)) || (j == L.length && hasB ys (i : Int))
theorem hasB_nil (z : Int) : hasB [] z = false := by cases h : hasB [] z with | false => rfl | true => (rw [hasB_iff] at h; obtain ⟨q, hq, _⟩ := h; simp at hq)
theorem avA_link (L : List (List Int)) {y : Nat} (ys : List Int) (i j : Nat) : avA L (ys ++ [(y : Int)]) i j = linkA (avA L ys) y L.length i j := by
  unfold linkA avA
  rw [hasB_snoc, hasB_snoc]
  have c1 : ((j : Int) == (y : Int)) = (j == y) := by rw [Bool.eq_iff_iff, beq_iff_eq, beq_iff_eq]; omega
  have c2 : ((i : Int) == (y : Int)) = (i == y) := by rw [Bool.eq_iff_iff, beq_iff_eq, beq_iff_eq]; omega
  rw [c1, c2]
  cases adjB L i j <;> cases (i == L.length) <;> cases (j == L.length) <;> cases hasB ys (j : Int) <;> cases hasB ys (i : Int) <;> cases (i == y) <;> cases (j == y) <;> rfl
/-- The answer. -/
def avL (L : List (List Int)) (xs : List Int) : List (List Int) := if avB L xs = true then adjL (L.length + 1) (avA L xs) else []
theorem avL_no {L : List (List Int)} {xs : List Int} (h : avB L xs = false) : avL L xs = [] := by rw [avL, h]; rfl
theorem avL_small (L : List (List Int)) (xs : List Int) : Small (avL L xs) := by
  unfold avL
  split
  · rename_i h
    exact adjL_small _ _ (by have := (avB_yes h).2.2.1; omega)
  · exact ⟨by simp, fun i hi => absurd hi (by simp)⟩
theorem avA_start {L : List (List Int)} (hG : GraphP L) : L ++ [[]] = adjL (L.length + 1) (avA L []) := by
  apply nthR_ext
  · simp [adjL_len]
  · intro i hi
    rw [List.length_append, List.length_singleton] at hi
    rw [adjL_nth _ hi]
    have e : ∀ j, avA L [] i j = adjB L i j := fun j => by unfold avA; rw [hasB_nil, hasB_nil]; simp
    rw [pm_congr (fun j _ => e j)]
    by_cases h : i < L.length
    · rw [nthR_append_old h, ← rowM_pm hG, row_list hG h]
    · obtain rfl : i = L.length := by omega
      rw [nthR_append_last]
      have : pm (adjB L L.length) = 0 := by
        rw [← pm_false]
        refine pm_congr (fun j _ => ?_)
        cases hb : adjB L L.length j with
        | false => rfl
        | true => exact absurd (adjB_range hG hb).1 (by omega)
      rw [this, listM_zero]

set_option maxHeartbeats 3200000 in
set_option maxRecDepth 100000 in
theorem specAddedVertex_any (v v1 : Value) (L : List (List Int)) (xs : List Int) (w : World) (h : GridAt w v L) (h1 : RowAt w v1 xs) : Calls Try.prog 81 #[.agg #[v], v1] w (GaveGB w (avL L xs) (avB L xs)) := by
  obtain ⟨i0, hi, hz0, hz1, hz2⟩ := info_parts Try.infoR
  obtain ⟨a0, c0, rfl⟩ := h.slice
  obtain ⟨a1, c1, rfl⟩ := h1.slice
  have hlm := h1.len
  unfold maxLen at hlm
  have T0 := Lib.hid (Two.start w (.slice a0 L.length c0))
  have HGK : Hid (∀ w', Below w.heap.size w w' → GridAt w' (.slice a0 L.length c0) L) := fun w' hb => h.keep hb
  have HRK : Hid (∀ w', Below w.heap.size w w' → RowAt w' (.slice a1 xs.length c1) xs) := fun w' hb => h1.keep hb
  clear h h1
  go_enter Try.func81, Try.ntmps81
  go_wp2_with fail
  refine (specSetOk_any _ _ _ _ _ (HGK.out _ T0.out.bel) (HRK.out _ T0.out.bel)).mono ?_
  rintro e w1 ⟨rfl, hb1⟩
  have T1 := Lib.hid (T0.out.keep hb1)
  clear hb1 T0
  by_cases hS : setB L xs = true
  · have HSB := Lib.hid hS
    have kb1 := T1.out.arg.1
    rw [hS]
    clear hS
    go_wp2_with fail
    refine (l1Size_any _ L _ (HGK.out _ T1.out.bel)).mono ?_
    rintro e w2 ⟨rfl, hb2⟩
    have T2 := Lib.hid (T1.out.keep hb2)
    clear hb2 T1 kb1
    by_cases h16 : L.length = 16
    · have HI : Hid (avB L xs = false) := by show avB L xs = false; unfold avB; rw [h16]; simp
      have he : ((L.length : Int) == 16) = true := by rw [h16]; rfl
      have kr := T2.out.res.1
      have kf := T2.out.res.2
      clear h16
      go_wp2
      exact bodyPost_ret (v := .tuple #[.agg #[.slice none 0 0], .bool false]) (by simp [results, Try.results81, go_sem, T2.out.q0]) rfl (T2.out.no (avL_no HI.out) HI.out)
    · have he : ((L.length : Int) == 16) = false := by rw [beq_eq_false_iff_ne]; omega
      have HI : Hid (avB L xs = true) := by show avB L xs = true; unfold avB; rw [HSB.out, he]; rfl
      obtain ⟨hG, hs, hlt16, hx16⟩ := avB_yes HI.out
      have HG := Lib.hid hG
      have HS := Lib.hid hs
      have hz := hG.1
      have kb2 := T2.out.arg.1
      clear h16 hG hs
      go_wp2_with fail
      refine (l1CopyGraph_any _ L _ (HGK.out _ T2.out.bel) (graph_small HG.out)).mono ?_
      rintro e w3 ⟨n2, a2, c2, rfl, ho2, hb2⟩
      obtain ⟨rfl, g, rfl, hwk⟩ := WorkL.start T2.out hb2 ho2 (by omega)
      obtain ⟨R, hR, hRr, hRd⟩ := hwk.own.owns
      have HWK := Lib.hid hwk
      have HR := Lib.hid hR
      have HRr := Lib.hid hRr
      have HRd := Lib.hid hRd
      have k6 := hwk.box.box.1
      have hz2' : w.heap.size + 1 < w2.heap.size := T2.out.lt
      have hz3 : w2.heap.size ≤ w3.heap.size := hb2.size
      have hz4 : w2.heap.size ≤ (w3.alloc (.cells #[.slice (some ⟨g, 0, none⟩) L.length c2] 30)).heap.size := by rw [size_alloc1]; omega
      clear ho2 hb2 hR hRr hRd kb2 hwk
      go_wp2_with (at_builtin; refine wpList_append_own _ rfl (.tmp 21) (.tmp 23) 28 rfl w2.heap.size 35 i0 (.slice none 0 0) 1 24 Try.underlying28 hi hz0 hz1 hz2 rfl (by decide) _ _ _ rfl ((HR.out.alloc _).alloc _) ⟨w3.heap.size + 1 + 1, 0, none⟩ 1 1 [.slice (some ⟨w3.heap.size + 1, 0, none⟩) 0 0] rfl rfl ?c1 ?c2 ?c3 ?c4 ?c5 ?_)
      case c1 =>
        have hq := World.news_of_block (heap_alloc_new ((w3.alloc (.cells #[.slice (some ⟨g, 0, none⟩) L.length c2] 30)).alloc (.cells #[] 2)) (.cells #[.slice (some ⟨w3.heap.size + 1, 0, none⟩) 0 0] 35))
        rw [size_alloc1, size_alloc1] at hq
        exact hq
      case c2 => intro u hu; simp at hu; subst hu; rfl
      case c3 => unfold maxLen; omega
      case c4 => omega
      case c5 => simp; omega
      intro v' w5 hown' hgrow _
      have hbA : Below (w3.alloc (.cells #[.slice (some ⟨g, 0, none⟩) L.length c2] 30)).heap.size (w3.alloc (.cells #[.slice (some ⟨g, 0, none⟩) L.length c2] 30)) (((w3.alloc (.cells #[.slice (some ⟨g, 0, none⟩) L.length c2] 30)).alloc (.cells #[] 2)).alloc (.cells #[.slice (some ⟨w3.heap.size + 1, 0, none⟩) 0 0] 35)) := ((Below.refl _ _).alloc (Nat.le_refl _) _).alloc (by simp) _
      have hog' : OwnGrid 2 35 w5 w2.heap.size v' (L ++ [[]]) := by
        refine OwnGrid.snoc (w0 := w3.alloc (.cells #[.slice (some ⟨g, 0, none⟩) L.length c2] 30)) (n := L.length) (by decide) hbA hz4 ?_ rfl (by unfold maxLen; omega) R HR.out HRr.out HRd.out hown' hgrow
        have := own_empty (T := 2) (w3.alloc (.cells #[.slice (some ⟨g, 0, none⟩) L.length c2] 30))
        rw [size_alloc1] at this
        have := this.keep ((Below.refl _ _).alloc (Nat.le_refl _) (.cells #[.slice (some ⟨w3.heap.size + 1, 0, none⟩) 0 0] 35))
        rw [size_alloc1]
        exact this
      have hbw : Below w2.heap.size (w3.alloc (.cells #[.slice (some ⟨g, 0, none⟩) L.length c2] 30)) w5 := (hbA.mono hz4).grown hgrow (by rw [size_alloc1, size_alloc1]; omega) (fun j hj => (HR.out.lt j hj).1)
      have hob : w5.heap[w3.heap.size]? = some (.cells #[.slice (some ⟨g, 0, none⟩) L.length c2] 30 (0, 0)) := by
        have hlt3 : w3.heap.size < (w3.alloc (.cells #[.slice (some ⟨g, 0, none⟩) L.length c2] 30)).heap.size := by rw [size_alloc1]; omega
        rw [hgrow.block w3.heap.size (by rw [size_alloc1, size_alloc1]; omega) (fun e => HWK.out.ne (by simpa [Value.ownBlock] using e)), hbA.block _ hlt3]
        exact HWK.out.box
      rw [avA_start HG.out] at hog'
      obtain ⟨a5, c5, e5⟩ := hog'.grid.slice
      rw [adjL_len] at e5
      subst e5
      have T5 := HWK.out.two.keepB hbw hz2'
      have bt5 : BoxT 30 w5 w3.heap.size (.slice (some ⟨g, 0, none⟩) L.length c2) := hob
      have kb5 := bt5.box.1
      have kf5 := bt5.box.2
      have HW5 : Hid (Work w w.heap.size (.slice a0 L.length c0) w3.heap.size (L.length + 1) w2.heap.size (avA L []) (w5.setCell ⟨w3.heap.size, 0, none⟩ (.slice a5 (L.length + 1) c5))) :=
        ⟨T5.arg.setOther (by simp; omega) _, T5.res.setOther (by simp; omega) _, ⟨a5, c5, bt5.set _, hog'.setType bt5 (by decide) (by decide) 0 _⟩, T5.bel.setCell (by simp; omega) _⟩
      clear hown' hgrow hbA hog' hbw hob T5 bt5 k6
      go_wp2_with fail
      generalize (w5.setCell ⟨w3.heap.size, 0, none⟩ (.slice a5 (L.length + 1) c5)) = w6 at HW5 ⊢
      go_loopw [7] (fun i wr => ∃ k : Nat, k ≤ xs.length ∧ i = .int .i64 k ∧ Work w w.heap.size (.slice a0 L.length c0) w3.heap.size (L.length + 1) w2.heap.size (avA L (xs.take k)) wr) (fun i _ => xs.length - (intOf i).toNat)
      case atStart => exact ⟨0, Nat.zero_le _, rfl, HW5.out⟩
      case round =>
        obtain ⟨k, hk, rfl, hw⟩ := hrel
        have HW := Lib.hid hw
        have kb := hw.arg.1
        by_cases hlt : k < xs.length
        · obtain ⟨bx, ox, cx, e2, l1, l2, hc⟩ := (HRK.out _ hw.bel).pos (by omega)
          simp only [Value.slice.injEq, true_and] at e2
          obtain ⟨rfl, rfl⟩ := e2
          have hck := hc k hlt
          have hxk := HS.out k hlt
          obtain ⟨y, hy⟩ : ∃ y : Nat, nth xs k = (y : Int) := ⟨(nth xs k).toNat, by have := hxk.1; omega⟩
          have hyn : y < L.length := by have := hxk.2.1; omega
          rw [hy] at hck
          have HTK : Hid (xs.take (k + 1) = xs.take k ++ [(y : Int)]) := by show _ = _; rw [take_snoc hlt, hy]
          obtain ⟨ag, cg, hbt, hog⟩ := hw.out
          obtain ⟨g7, cap, eg, hBg, hgs, _⟩ := hog.place (by rw [adjL_len]; omega)
          simp only [adjL_len, Value.slice.injEq, true_and] at eg
          obtain ⟨rfl, rfl⟩ := eg
          have hgne : w3.heap.size ≠ g7 := by
            obtain ⟨cur, hcur⟩ := hog.blkT
            intro e
            rw [← e] at hcur
            have hbb : wr.heap[w3.heap.size]? = _ := hbt
            rw [hcur] at hbb
            simp at hbb
          have kg := hbt.box.1
          have HBT := Lib.hid hbt
          have HOG := Lib.hid hog
          clear hw hc hxk hy hbt hog
          go_wp2_with fail
          go_region_law (first
            | (go_simp; go_at_call 51; refine (l1Size_any _ L _ (HGK.out _ HW.out.bel.drew)).mono ?_; rintro e wa ⟨rfl, hba⟩; have HBA : Hid (Below wr.heap.size wr wa) := (Below.refl _ _).drew.trans hba; have kga := cell_keep HBA.out kg; have hcka := cell_keep HBA.out hck; have kba := cell_keep HBA.out kb; have HWA := Lib.hid (HW.out.keep HBA.out); have HBTA := Lib.hid (HBT.out.keep HBA.out); have HOGA := Lib.hid (HOG.out.keep HBA.out); clear hba)
            | (go_simp; go_at_call 69; refine (l1Link_adj y L.length g7 cg w2.heap.size (L.length + 1) _ _ HOGA.out (by have := HBTA.out.lt; omega) (by omega) (by omega) (by omega) (by omega)).mono ?_; rintro e wb ⟨rfl, hob, hbb, htb⟩; have btb : BoxT 30 wb w3.heap.size (.slice (some ⟨g7, 0, none⟩) (L.length + 1) cg) := (by unfold BoxT; rw [htb _ HBTA.out.lt hgne]; exact HBTA.out); have kbb := btb.box.1; have kfb := btb.box.2; have HWB : Hid (Work w w.heap.size (.slice a0 L.length c0) w3.heap.size (L.length + 1) w2.heap.size (avA L (xs.take (k + 1))) (wb.setCell ⟨w3.heap.size, 0, none⟩ (.slice (some ⟨g7, 0, none⟩) (L.length + 1) cg))) := ⟨(HWA.out.arg.keepB hbb (by omega)).setOther (by simp; omega) _, (HWA.out.res.keepB hbb (by omega)).setOther (by simp; omega) _, ⟨_, cg, btb.set _, by rw [HTK.out, adjL_congr (fun i _ j _ => avA_link L _ i j)]; exact hob.setType btb (by decide) (by decide) 0 _⟩, (HWA.out.bel.trans (hbb.mono (by omega))).setCell (by simp; omega) _⟩; clear hob hbb htb btb))
          all_goals (
            clear kg hck kb kga hcka kba kbb kfb
            go_wp2
            go_roundw
            case rel => exact ⟨k + 1, by omega, by go_num, HWB.out⟩
            case measure => simp [intOf]; omega)
        · obtain rfl : k = xs.length := by omega
          obtain ⟨ag, cg, hbt, hog⟩ := hw.out
          rw [List.take_length] at hog
          have kg := hbt.box.1
          have kr := hw.res.1
          have kf := hw.res.2
          have T7 : Hid (Two w (.slice a0 L.length c0) wr) := ⟨hw.arg, hw.res, hw.bel⟩
          have HOG := Lib.hid hog
          clear hbt hog hw kb
          go_wp2
          refine bodyPost_ret (v := .tuple #[.agg #[.slice ag (L.length + 1) cg], .bool true]) (by simp [results, Try.results81, go_sem, T7.out.q0]) rfl (T7.out.yes (B := w2.heap.size) ?_ hz2' HI.out)
          rw [avL, if_pos HI.out]
          exact HOG.out
  · have hS' : setB L xs = false := by simpa using hS
    have HI : Hid (avB L xs = false) := by show avB L xs = false; unfold avB; rw [hS', Bool.false_and]
    have kr := T1.out.res.1
    have kf := T1.out.res.2
    rw [hS']
    clear hS hS'
    go_wp2
    exact bodyPost_ret (v := .tuple #[.agg #[.slice none 0 0], .bool false]) (by simp [results, Try.results81, go_sem, T1.out.q0]) rfl (T1.out.no (avL_no HI.out) HI.out)

end Go.Proofs.Ytojbaepcflkgeaa

/- Walks: a vertex added: the program's. -/
namespace Go.Proofs.Ytojbaepcflkgeaa
open Go.RowKit

/-- A row laid, its box laid, the copy grown by it, put back: the copy has one row more. -/
theorem WorkL.grow {w0 w w2 w7 : World} {v : Value} {bo B g n cg g7 cap7 : Nat} {L : List (List Int)} {xs : List Int} {rv : Value} {R : Nat → Value} (h : WorkL w0 v bo B g n cg L w) (hbo2 : w0.heap.size + 1 < bo) (hn : L.length = n) (hl : n ≤ 1000) (hb : Below w.heap.size w w2) (hr : OwnRow 2 w2 w.heap.size rv xs)
    (hR : w.ownsRow B 35 1 (.slice (some ⟨g, 0, none⟩) n cg) n ((List.range n).map R)) (hRr : ∀ i, i < n → OwnRow 2 w B (R i) (nthR L i)) (hRd : ∀ i j q, i < j → j < n → (R i).ownBlock = some q → (R j).ownBlock ≠ some q)
    (hown : w7.ownsRow B 35 1 (.slice (some ⟨g7, 0, none⟩) (n + 1) cap7) (n + 1) ((List.range n).map R ++ [rv])) (hgrow : (w2.alloc (.cells #[rv] 35)).grownBy w7 (Value.slice (some ⟨g, 0, none⟩) n cg).ownBlock) :
    BoxT 30 w7 bo (.slice (some ⟨g, 0, none⟩) n cg) ∧ WorkL w0 v bo B g7 (n + 1) cap7 (L ++ [xs]) (w7.setCell ⟨bo, 0, none⟩ (.slice (some ⟨g7, 0, none⟩) (n + 1) cap7)) := by
  subst hn
  have hBs : B ≤ w.heap.size := by
    rcases hR.2 with ⟨e, _⟩ | ⟨g', cap', cur', e, hg, hh, _⟩
    · cases e
    · obtain ⟨hlt, _⟩ := Array.getElem?_eq_some_iff.1 hh
      omega
  have hlow := h.low
  have hW : Below w.heap.size w (w2.alloc (.cells #[rv] 35)) := hb.alloc hb.size _
  have hbw : Below B w w7 := (hW.mono hBs).grown hgrow (by rw [size_alloc1]; have := hb.size; omega) (fun j hj => (hR.lt j hj).1)
  have hog : OwnGrid 2 35 w7 B (.slice (some ⟨g7, 0, none⟩) (L.length + 1) cap7) (L ++ [xs]) := by
    refine OwnGrid.snoc (w0 := w) (w := w2.alloc (.cells #[rv] 35)) (rv := rv) (n := L.length) (v := .slice (some ⟨g, 0, none⟩) L.length cg) (by decide) hW hBs ?_ rfl (by unfold maxLen; omega) R hR hRr hRd hown hgrow
    exact hr.keep ((Below.refl _ _).alloc (Nat.le_refl _) _)
  have hbt : BoxT 30 w7 bo (.slice (some ⟨g, 0, none⟩) L.length cg) := by
    unfold BoxT
    have hlt := h.box.lt
    rw [hgrow.block bo (by rw [size_alloc1]; have := hb.size; omega) (fun e => h.ne (by simpa [Value.ownBlock] using e)), hW.block bo hlt]
    exact h.box
  have t7 := h.two.keepB hbw hlow
  exact ⟨hbt, ⟨t7.arg.setOther (by simp; omega) _, t7.res.setOther (by simp; omega) _, t7.bel.setCell (by simp; omega) _⟩, hbt.set _, hog.setType hbt (by decide) (by decide) 0 _, hlow⟩

/-- Who is near whom among the old vertices and the new one, when the rows of ys have it. -/
def avP (L : List (List Int)) (ys : List Int) (i j : Nat) : Bool := adjB L i j || (j == L.length && hasB ys (i : Int))
theorem avP_start {L : List (List Int)} (hG : GraphP L) : L = adjL L.length (avP L []) := by
  have h := graph_adjL hG
  rw [← adjL_congr (A := avP L []) (A' := adjB L) (fun i _ j _ => by unfold avP; rw [hasB_nil]; simp)] at h
  exact h.symm
theorem avP_set {L : List (List Int)} (hG : GraphP L) (hn : L.length < 16) {y : Nat} (ys : List Int) (hy : y < L.length) : (adjL L.length (avP L ys)).set y (listM (rowM L y ||| 2 ^ L.length)) = adjL L.length (avP L (ys ++ [(y : Int)])) := by
  apply nthR_ext
  · simp [adjL_len]
  · intro i hi
    rw [List.length_set, adjL_len] at hi
    rw [adjL_nth _ hi]
    by_cases e : y = i
    · subst e
      unfold nthR
      rw [List.getD_eq_getElem?_getD, List.getElem?_set_self (by rw [adjL_len]; exact hi)]
      show listM _ = listM _
      congr 1
      apply Nat.eq_of_testBit_eq
      intro j
      rw [Nat.testBit_or, rowM_pm hG, pm_bit, pm_bit, Nat.testBit_two_pow]
      unfold avP
      rw [hasB_snoc]
      have e1 : ((y : Int) == (y : Int)) = true := by simp
      have e2 : (j == L.length) = decide (L.length = j) := by by_cases h : L.length = j <;> simp [h]; omega
      rw [e1, e2, Bool.or_true, Bool.and_true]
      by_cases hj : j < 16
      · simp [hj]
      · simp [hj, show ¬ L.length = j from by omega]
    · rw [nthR_set_ne _ e, adjL_nth _ hi]
      congr 1
      refine pm_congr (fun j _ => ?_)
      unfold avP
      rw [hasB_snoc]
      have : ((i : Int) == (y : Int)) = false := by rw [beq_eq_false_iff_ne]; omega
      rw [this, Bool.or_false]
theorem avP_end {L : List (List Int)} {xs : List Int} (hG : GraphP L) (hs : SetP xs L.length) (hn : L.length < 16) : adjL L.length (avP L xs) ++ [xs] = adjL (L.length + 1) (avA L xs) := by
  apply nthR_ext
  · simp [adjL_len]
  · intro i hi
    rw [List.length_append, List.length_singleton, adjL_len] at hi
    rw [adjL_nth _ hi]
    by_cases h : i < L.length
    · rw [nthR_append_old (by rw [adjL_len]; exact h), adjL_nth _ h]
      congr 1
      refine pm_congr (fun j _ => ?_)
      unfold avP avA
      have : (i == L.length) = false := by rw [beq_eq_false_iff_ne]; omega
      rw [this]; simp
    · obtain rfl : i = L.length := by omega
      have e := nthR_append_last (adjL L.length (avP L xs)) xs
      rw [adjL_len] at e
      rw [e]
      refine sets_eq (SetP.mk hs.pairwise (fun x hx => by have := hs.bounds x hx; omega)) (listM_set _) (fun z => ?_)
      rw [listM_mem]
      have hadj : ∀ j, adjB L L.length j = false := fun j => by
        cases hb : adjB L L.length j with
        | false => rfl
        | true => exact absurd (adjB_range hG hb).1 (by omega)
      have hself : hasB xs (L.length : Int) = false := by
        cases hb : hasB xs (L.length : Int) with
        | false => rfl
        | true =>
          have := hs.bounds _ ((hasB_mem _ _).1 hb)
          omega
      constructor
      · intro hz
        have hb := hs.bounds z hz
        obtain ⟨j, rfl⟩ : ∃ j : Nat, z = (j : Int) := ⟨z.toNat, by omega⟩
        refine ⟨j, by omega, ?_, rfl⟩
        rw [pm_bit]
        unfold avA
        rw [(hasB_mem xs (j : Int)).2 hz]
        simp; omega
      · rintro ⟨j, hj, hb, rfl⟩
        rw [pm_bit, Bool.and_eq_true] at hb
        have hb2 := hb.2
        unfold avA at hb2
        rw [hadj, hself] at hb2
        simp at hb2
        exact (hasB_mem _ _).1 hb2

end Go.Proofs.Ytojbaepcflkgeaa
