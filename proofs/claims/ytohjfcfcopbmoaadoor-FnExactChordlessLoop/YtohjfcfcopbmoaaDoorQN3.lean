/- The texts N3, N4, N5, N6, N7, N8, N9, P1, joined. -/
import Derived.Test.YtohjfcfcopbmoaaDoorQM4
import Derived.Laws.CopyOwn
import Derived.Test.YtohjfcfcopbmoaaDoorQM9
import Derived.Deep.DeepCutAuto
import Derived.ArgAppend
import Derived.Deep.AppendLies

/- Walks: the program's copies. -/
namespace Go.Proofs.YtohjfcfcopbmoaaDoor
open Go.RowKit

theorem Tryd.sizeI : (Tryd.prog.info? 2).map (·.size) = some 1 := by kernel_rfl

/-- The first k rows; the rest empty. -/
def cpL (L : List (List Int)) (k : Nat) : List (List Int) := (List.range L.length).map (fun i => if i < k then nthR L i else [])
theorem cpL_len (L : List (List Int)) (k : Nat) : (cpL L k).length = L.length := by simp [cpL]
theorem cpL_nth {L : List (List Int)} (k : Nat) {i : Nat} (hi : i < L.length) : nthR (cpL L k) i = if i < k then nthR L i else [] := by simp [cpL, nthR, hi]
theorem cpL_set (L : List (List Int)) (k : Nat) : (cpL L k).set k (nthR L k) = cpL L (k + 1) := by
  apply nthR_ext
  · simp [cpL_len]
  · intro i hi
    rw [List.length_set, cpL_len] at hi
    rw [cpL_nth (k + 1) hi]
    unfold nthR
    rw [List.getD_eq_getElem?_getD]
    by_cases e : k = i
    · subst e
      rw [List.getElem?_set_self (by rw [cpL_len]; exact hi)]
      simp
    · rw [List.getElem?_set_ne e]
      have := cpL_nth (L := L) k hi
      unfold nthR at this
      rw [List.getD_eq_getElem?_getD] at this
      rw [this]
      by_cases h : i < k
      · simp [h, Nat.lt_succ_of_lt h]
      · simp [h, show ¬ i < k + 1 from by omega]
theorem cpL_all (L : List (List Int)) : cpL L L.length = L := by
  apply nthR_ext
  · rw [cpL_len]
  · intro i hi
    rw [cpL_len] at hi
    rw [cpL_nth _ hi, if_pos hi]
theorem own_madeC (w : World) (L : List (List Int)) (hn : L.length ≤ 1048576) : OwnGrid 2 26 (w.alloc (.cells (madeCells #[.slice none 0 0] L.length) 26)) w.heap.size (.slice (some ⟨w.heap.size, 0, none⟩) L.length L.length) (cpL L 0) := by
  obtain ⟨cur, c1, c2, c3⟩ := World.rowIs_made w (.slice none 0 0) L.length 26
  refine ⟨fun _ => .slice none 0 0, by rw [cpL_len]; unfold maxLen; omega, Or.inr ⟨w.heap.size, L.length, cur, by rw [cpL_len], Nat.le_refl _, c1, by rw [cpL_len]; exact Nat.le_refl _, by unfold maxLen; omega, c2, fun i hi => by rw [cpL_len] at hi; rw [c3 i hi]⟩, fun i hi => ?_, fun i j k _ _ hk => by cases hk⟩
  rw [cpL_len] at hi
  rw [cpL_nth 0 hi, if_neg (by omega)]
  exact ⟨by simp, by simp, Or.inl ⟨rfl, rfl⟩⟩

end Go.Proofs.YtohjfcfcopbmoaaDoor

/- Walks: an edge cut. -/
namespace Go.Proofs.YtohjfcfcopbmoaaDoor
open Go.RowKit

/-- The boxes of a function at work on a copy: its graph's, its result's, that of the copy, and the copy. -/
structure WorkL (w0 : World) (v : Value) (bo B g n cg : Nat) (L : List (List Int)) (w : World) : Prop where
  two : Two w0 v w
  box : BoxT 29 w bo (.slice (some ⟨g, 0, none⟩) n cg)
  own : OwnGrid 2 26 w B (.slice (some ⟨g, 0, none⟩) n cg) L
  low : w0.heap.size + 1 < B
theorem WorkL.keep {w0 : World} {v : Value} {bo B g n cg : Nat} {L : List (List Int)} {w w' : World} (h : WorkL w0 v bo B g n cg L w) (hb : Below w.heap.size w w') : WorkL w0 v bo B g n cg L w' :=
  ⟨h.two.keep hb, h.box.keep hb, h.own.keep hb, h.low⟩
theorem WorkL.ne {w0 : World} {v : Value} {bo B g n cg : Nat} {L : List (List Int)} {w : World} (h : WorkL w0 v bo B g n cg L w) : bo ≠ g := by
  obtain ⟨cur, hcur⟩ := h.own.blkT
  intro e
  rw [← e] at hcur
  have hbb : w.heap[bo]? = _ := h.box
  rw [hcur] at hbb
  simp at hbb
theorem WorkL.at {w0 : World} {v : Value} {bo B g n cg : Nat} {L : List (List Int)} {w : World} (h : WorkL w0 v bo B g n cg L w) {i : Nat} (hi : i < L.length) :
    B ≤ g ∧ g < w.heap.size ∧ ∃ a m c, w.cell? ⟨g, i, none⟩ = some (.slice a m c) ∧ w.frozen? ⟨g, i, none⟩ = false ∧ OwnRow 2 w B (.slice a m c) (nthR L i) := by
  obtain ⟨g', cap', eg, hB, hgs, hcell⟩ := h.own.place (by omega)
  simp only [Value.slice.injEq, Option.some.injEq, Addr.mk.injEq, and_true] at eg
  obtain ⟨rfl, _, _⟩ := eg
  exact ⟨hB, hgs, hcell i hi⟩
theorem WorkL.set {w0 : World} {v : Value} {bo B g n cg : Nat} {L : List (List Int)} {w w' : World} (h : WorkL w0 v bo B g n cg L w) (hb : Below w.heap.size w w') {rv : Value} {xs : List Int} (hr : OwnRow 2 w' w.heap.size rv xs) {i : Nat} (hi : i < L.length) :
    WorkL w0 v bo B g n cg (L.set i xs) (w'.setCell ⟨g, i, none⟩ rv) := by
  obtain ⟨hB, hgs, _⟩ := h.at hi
  have hlow := h.low
  have h1 := h.keep hb
  exact ⟨⟨h1.two.arg.setOther (by simp; omega) _, h1.two.res.setOther (by simp; omega) _, h1.two.bel.setCell (by simp; omega) _⟩, h1.box.setOther h.ne _, h.own.setRow (by decide) hb hi (hr.mono (by omega)) (fun k hk => Or.inl (hr.lt k hk).1), hlow⟩

/-- Two different vertices of a graph. -/
def pairB (L : List (List Int)) (u x : Int) : Bool := decide (GraphP L) && inB u 0 ((L.length : Int) - 1) && inB x 0 ((L.length : Int) - 1) && (u != x)

end Go.Proofs.YtohjfcfcopbmoaaDoor

/- Walks: an edge cut: the model's and the program's. -/
namespace Go.Proofs.YtohjfcfcopbmoaaDoor
open Go.RowKit

theorem cell_set_blk {w : World} {a b : Addr} {u : Value} (v : Value) (hne : a.block ≠ b.block) (h : w.cell? b = some u) : (w.setCell a v).cell? b = some u :=
  (cell_set_other v (fun e => hne (congrArg Addr.block e))).trans h
theorem hasB_ne {L : List (List Int)} (hG : GraphP L) {u x : Int} (h0 : 0 ≤ u) (h1 : u < (L.length : Int)) (h : hasB (nthR L u.toNat) x = true) : u ≠ x := by
  intro e
  subst e
  have := (hG.2.1 u.toNat (by omega)).2
  rw [Int.toNat_of_nonneg h0, h] at this
  cases this
theorem edgeB_pair (L : List (List Int)) (u x : Int) : edgeB L u x = (pairB L u x && hasB (nthR L u.toNat) x) := by
  unfold edgeB pairB
  by_cases hG : GraphP L
  · by_cases hu : inB u 0 ((L.length : Int) - 1) = true
    · cases hh : hasB (nthR L u.toNat) x with
      | false => simp
      | true =>
        have hu' : 0 ≤ u ∧ u ≤ (L.length : Int) - 1 := by simpa [inB] using hu
        have hne := hasB_ne hG hu'.1 (by omega) hh
        have : (u != x) = true := by rw [bne_iff_ne]; exact hne
        rw [this]; simp
    · have hu' : inB u 0 ((L.length : Int) - 1) = false := by simpa using hu
      rw [hu']; simp
  · rw [decide_eq_false hG]; simp
theorem edgeB_nat {L : List (List Int)} {u x : Int} (h : edgeB L u x = true) : GraphP L ∧ ∃ p q : Nat, u = (p : Int) ∧ x = (q : Int) ∧ p < L.length ∧ q < L.length ∧ p ≠ q := by
  unfold edgeB inB at h
  simp at h
  obtain ⟨⟨⟨hG, hu⟩, hx⟩, hh⟩ := h
  have hne := hasB_ne hG hu.1 (by omega) hh
  exact ⟨hG, u.toNat, x.toNat, by omega, by omega, by omega, by omega, by omega⟩

/-- The graph without the edge. -/
def cutEL (L : List (List Int)) (u x : Int) : List (List Int) := if edgeB L u x = true then (L.set u.toNat (wo (nthR L u.toNat) x)).set x.toNat (wo (nthR L x.toNat) u) else []
theorem cutEL_no {L : List (List Int)} {u x : Int} (h : edgeB L u x = false) : cutEL L u x = [] := by rw [cutEL, h]; rfl
theorem nthR_set_ne {L : List (List Int)} {i j : Nat} (xs : List Int) (h : i ≠ j) : nthR (L.set i xs) j = nthR L j := by
  unfold nthR
  rw [List.getD_eq_getElem?_getD, List.getD_eq_getElem?_getD, List.getElem?_set_ne h]
theorem small_set {L : List (List Int)} (h : Small L) {i : Nat} {xs : List Int} (hx : xs.length ≤ 1048576) : Small (L.set i xs) := by
  refine ⟨by rw [List.length_set]; exact h.1, fun j hj => ?_⟩
  rw [List.length_set] at hj
  by_cases e : i = j
  · subst e
    unfold nthR
    rw [List.getD_eq_getElem?_getD, List.getElem?_set_self hj]
    exact hx
  · rw [nthR_set_ne xs e]; exact h.2 j hj
theorem row_small {L : List (List Int)} (hG : GraphP L) {i : Nat} (hi : i < L.length) : (nthR L i).length ≤ 16 := by rw [← row_list hG hi]; exact listM_len _
theorem cutEL_small (L : List (List Int)) (u x : Int) : Small (cutEL L u x) := by
  unfold cutEL
  split
  · rename_i h
    obtain ⟨hG, p, q, rfl, rfl, hp, hq, _⟩ := edgeB_nat h
    have h1 := wo_len (nthR L (p : Int).toNat) (q : Int)
    have h2 := wo_len (nthR L (q : Int).toNat) (p : Int)
    rw [Int.toNat_natCast] at h1 h2 ⊢
    have h3 := row_small hG hp
    have h4 := row_small hG hq
    exact small_set (small_set (graph_small hG) (by omega)) (by rw [Int.toNat_natCast]; omega)
  · exact ⟨by simp, fun i hi => absurd hi (by simp)⟩

/-- A copy laid and boxed. -/
theorem WorkL.start {w0 w w2 : World} {v : Value} {a2 : Option Addr} {n2 c2 : Nat} {L : List (List Int)} (ht : Two w0 v w) (hb : Below w.heap.size w w2) (ho : OwnGrid 2 26 w2 w.heap.size (.slice a2 n2 c2) L) (hl : 0 < L.length) :
    n2 = L.length ∧ ∃ g, a2 = some ⟨g, 0, none⟩ ∧ WorkL w0 v w2.heap.size w.heap.size g L.length c2 L (w2.alloc (.cells #[.slice (some ⟨g, 0, none⟩) L.length c2] 29)) := by
  obtain ⟨g, cap, eg, hB, hgs, _⟩ := ho.place hl
  simp only [Value.slice.injEq] at eg
  obtain ⟨rfl, rfl, rfl⟩ := eg
  have hbw : Below w2.heap.size w2 (w2.alloc (.cells #[.slice (some ⟨g, 0, none⟩) L.length c2] 29)) := (Below.refl _ _).alloc (Nat.le_refl _) _
  exact ⟨rfl, g, rfl, (ht.keep hb).keep hbw, BoxT.new _ _ _, ho.keep hbw, ht.lt⟩
theorem WorkL.done {w0 : World} {v : Value} {bo B g n cg : Nat} {L : List (List Int)} {w : World} (h : WorkL w0 v bo B g n cg L w) {ok : Bool} (hok : ok = true) : GaveGB w0 L ok (.returned (.tuple #[.agg #[.slice (some ⟨g, 0, none⟩) n cg], .bool true])) (w.setCell ⟨w0.heap.size + 1, 0, none⟩ (.slice (some ⟨g, 0, none⟩) n cg)) :=
  h.two.yes h.own h.low hok

end Go.Proofs.YtohjfcfcopbmoaaDoor

/- Walks: slices.BinarySearch over a rising row. -/
namespace Go.Proofs.YtohjfcfcopbmoaaDoor
open Go.RowKit

theorem isNaNc_any (x : Int) (w : World) : Calls Tryd.prog 85 #[.int .i64 x] w fun e w' => e = .returned (.bool false) ∧ w = w' := by
  have hx : (x != x) = false := by simp
  go_enter Tryd.func85, Tryd.ntmps85
  go_wp2
  go_ret
  exact ⟨rfl, rfl⟩
theorem isNaNs_any (x : Int) (w : World) : Calls Tryd.prog 114 #[.int .i64 x] w fun e w' => e = .returned (.bool false) ∧ w = w' := by
  have hx : (x != x) = false := by simp
  go_enter Tryd.func114, Tryd.ntmps114
  go_wp2
  go_ret
  exact ⟨rfl, rfl⟩
theorem less_any (x y : Int) (w : World) : Calls Tryd.prog 101 #[.int .i64 x, .int .i64 y] w fun e w' => e = .returned (.bool (decide (x < y))) ∧ w = w' := by
  go_enter Tryd.func101, Tryd.ntmps101
  go_wp2_with fail
  refine (isNaNc_any _ _).mono ?_
  rintro e w' ⟨rfl, rfl⟩
  go_wp2
  go_ret
  exact ⟨rfl, rfl⟩

/-- The place of x in a rising row: what is before it is less, what is from it on is not; and a bool. -/
def BsPost (w : World) (xs : List Int) (x : Int) (e : Ending) (w' : World) : Prop :=
  ∃ (k : Nat) (b : Bool), k ≤ xs.length ∧ (∀ j, j < k → nth xs j < x) ∧ (∀ j, k ≤ j → j < xs.length → x ≤ nth xs j) ∧ e = .returned (.tuple #[.int .i64 k, .bool b]) ∧ w = w'

end Go.Proofs.YtohjfcfcopbmoaaDoor

/- Walks: a number put into a rising row by the program. -/
namespace Go.Proofs.YtohjfcfcopbmoaaDoor
open Go.RowKit

/-- Where x stands in a rising row, and the row with it. -/
def WithPost (w : World) (xs : List Int) (x : Int) (e : Ending) (w' : World) : Prop :=
  ∃ k, k ≤ xs.length ∧ (∀ j, j < k → nth xs j < x) ∧ (∀ j, k ≤ j → j < xs.length → x ≤ nth xs j) ∧ GaveRow w (xs.take k ++ x :: xs.drop k) e w'

end Go.Proofs.YtohjfcfcopbmoaaDoor

/- Walks: an edge added. -/
namespace Go.Proofs.YtohjfcfcopbmoaaDoor
open Go.RowKit

theorem listM_rise (M : Nat) : ∀ i j, i < j → j < (listM M).length → nth (listM M) i < nth (listM M) j := by
  intro i j hij hj
  have := List.pairwise_iff_getElem.1 (listM_set M).pairwise i j (by omega) hj hij
  rwa [nth_eq (by omega), nth_eq hj]
/-- May this edge be added? -/
def addB (L : List (List Int)) (u x : Int) : Bool := pairB L u x && !hasB (nthR L u.toNat) x
/-- The graph with it. -/
def addEL (L : List (List Int)) (u x : Int) : List (List Int) := if addB L u x = true then (L.set u.toNat (listM (rowM L u.toNat ||| 2 ^ x.toNat))).set x.toNat (listM (rowM L x.toNat ||| 2 ^ u.toNat)) else []
theorem addEL_no {L : List (List Int)} {u x : Int} (h : addB L u x = false) : addEL L u x = [] := by rw [addEL, h]; rfl
theorem pairB_nat {L : List (List Int)} {u x : Int} (h : pairB L u x = true) : GraphP L ∧ ∃ p q : Nat, u = (p : Int) ∧ x = (q : Int) ∧ p < L.length ∧ q < L.length ∧ p ≠ q := by
  unfold pairB inB at h
  simp at h
  obtain ⟨⟨⟨hG, hu⟩, hx⟩, hne⟩ := h
  exact ⟨hG, u.toNat, x.toNat, by omega, by omega, by omega, by omega, by omega⟩
theorem addB_nat {L : List (List Int)} {u x : Int} (h : addB L u x = true) : GraphP L ∧ ∃ p q : Nat, u = (p : Int) ∧ x = (q : Int) ∧ p < L.length ∧ q < L.length ∧ p ≠ q ∧ adjB L p q = false := by
  unfold addB at h
  rw [Bool.and_eq_true, Bool.not_eq_true'] at h
  obtain ⟨hG, p, q, rfl, rfl, hp, hq, hpq⟩ := pairB_nat h.1
  refine ⟨hG, p, q, rfl, rfl, hp, hq, hpq, ?_⟩
  have := h.2
  have hz := hG.1
  rwa [Int.toNat_natCast, adjB_has hG hp (by omega)] at this
theorem addEL_small (L : List (List Int)) (u x : Int) : Small (addEL L u x) := by
  unfold addEL
  split
  · rename_i h
    obtain ⟨hG, p, q, rfl, rfl, hp, hq, _, _⟩ := addB_nat h
    exact small_set (small_set (graph_small hG) (by have := listM_len (rowM L (p : Int).toNat ||| 2 ^ (q : Int).toNat); omega)) (by have := listM_len (rowM L (q : Int).toNat ||| 2 ^ (p : Int).toNat); omega)
  · exact ⟨by simp, fun i hi => absurd hi (by simp)⟩
theorem Two.keepB {w0 : World} {v : Value} {w w' : World} {B : Nat} (h : Two w0 v w) (hb : Below B w w') (hB : w0.heap.size + 1 < B) : Two w0 v w' :=
  ⟨h.arg.keepB hb (by omega), h.res.keepB hb hB, h.bel.trans (hb.mono (by omega))⟩

end Go.Proofs.YtohjfcfcopbmoaaDoor

/- Walks: a vertex added: the model's. -/
namespace Go.Proofs.YtohjfcfcopbmoaaDoor
open Go.RowKit

/-- May a vertex with these neighbours be added? -/
def avB (L : List (List Int)) (xs : List Int) : Bool := setB L xs && !((L.length : Int) == 16)
theorem avB_yes {L : List (List Int)} {xs : List Int} (h : avB L xs = true) : GraphP L ∧ SetP xs L.length ∧ L.length < 16 ∧ xs.length ≤ 16 := by
  unfold avB setB at h
  simp at h
  have := h.1.2.len (by omega)
  have := h.1.1.1
  exact ⟨h.1.1, h.1.2, by omega, by omega⟩
/-- Who is near whom when the new vertex has been joined to ys. -/
def avA (L : List (List Int)) (ys : List Int) (i j : Nat) : Bool := adjB L i j || (i == L.length && hasB ys (j : Int)) || (j == L.length && hasB ys (i : Int))
theorem hasB_nil (z : Int) : hasB [] z = false := by cases h : hasB [] z with | false => rfl | true => (rw [hasB_iff] at h; obtain ⟨q, hq, _⟩ := h; simp at hq)
theorem avA_link (L : List (List Int)) {y : Nat} (ys : List Int) (i j : Nat) : avA L (ys ++ [(y : Int)]) i j = linkA (avA L ys) y L.length i j := by
  unfold linkA avA
  rw [hasB_snoc, hasB_snoc]
  have c1 : ((j : Int) == (y : Int)) = (j == y) := by rw [Bool.eq_iff_iff, beq_iff_eq, beq_iff_eq]; omega
  have c2 : ((i : Int) == (y : Int)) = (i == y) := by rw [Bool.eq_iff_iff, beq_iff_eq, beq_iff_eq]; omega
  rw [c1, c2]
  cases adjB L i j <;> cases (i == L.length) <;> cases (j == L.length) <;> cases hasB ys (j : Int) <;> cases hasB ys (i : Int) <;> cases (i == y) <;> cases (j == y) <;> rfl
/-- The answer. -/
def avL (L : List (List Int)) (xs : List Int) : List (List Int) := if avB L xs = true then adjL (L.length + 1) (avA L xs) else []
theorem avL_no {L : List (List Int)} {xs : List Int} (h : avB L xs = false) : avL L xs = [] := by rw [avL, h]; rfl
theorem avL_small (L : List (List Int)) (xs : List Int) : Small (avL L xs) := by
  unfold avL
  split
  · rename_i h
    exact adjL_small _ _ (by have := (avB_yes h).2.2.1; omega)
  · exact ⟨by simp, fun i hi => absurd hi (by simp)⟩
theorem avA_start {L : List (List Int)} (hG : GraphP L) : L ++ [[]] = adjL (L.length + 1) (avA L []) := by
  apply nthR_ext
  · simp [adjL_len]
  · intro i hi
    rw [List.length_append, List.length_singleton] at hi
    rw [adjL_nth _ hi]
    have e : ∀ j, avA L [] i j = adjB L i j := fun j => by unfold avA; rw [hasB_nil, hasB_nil]; simp
    rw [pm_congr (fun j _ => e j)]
    by_cases h : i < L.length
    · rw [nthR_append_old h, ← rowM_pm hG, row_list hG h]
    · obtain rfl : i = L.length := by omega
      rw [nthR_append_last]
      have : pm (adjB L L.length) = 0 := by
        rw [← pm_false]
        refine pm_congr (fun j _ => ?_)
        cases hb : adjB L L.length j with
        | false => rfl
        | true => exact absurd (adjB_range hG hb).1 (by omega)
      rw [this, listM_zero]

end Go.Proofs.YtohjfcfcopbmoaaDoor

/- Walks: a vertex added: the program's. -/
namespace Go.Proofs.YtohjfcfcopbmoaaDoor
open Go.RowKit

/-- A row laid, its box laid, the copy grown by it, put back: the copy has one row more. -/
theorem WorkL.grow {w0 w w2 w7 : World} {v : Value} {bo B g n cg g7 cap7 : Nat} {L : List (List Int)} {xs : List Int} {rv : Value} {R : Nat → Value} (h : WorkL w0 v bo B g n cg L w) (hbo2 : w0.heap.size + 1 < bo) (hn : L.length = n) (hl : n ≤ 1000) (hb : Below w.heap.size w w2) (hr : OwnRow 2 w2 w.heap.size rv xs)
    (hR : w.ownsRow B 26 1 (.slice (some ⟨g, 0, none⟩) n cg) n ((List.range n).map R)) (hRr : ∀ i, i < n → OwnRow 2 w B (R i) (nthR L i)) (hRd : ∀ i j q, i < j → j < n → (R i).ownBlock = some q → (R j).ownBlock ≠ some q)
    (hown : w7.ownsRow B 26 1 (.slice (some ⟨g7, 0, none⟩) (n + 1) cap7) (n + 1) ((List.range n).map R ++ [rv])) (hgrow : (w2.alloc (.cells #[rv] 26)).grownBy w7 (Value.slice (some ⟨g, 0, none⟩) n cg).ownBlock) :
    BoxT 29 w7 bo (.slice (some ⟨g, 0, none⟩) n cg) ∧ WorkL w0 v bo B g7 (n + 1) cap7 (L ++ [xs]) (w7.setCell ⟨bo, 0, none⟩ (.slice (some ⟨g7, 0, none⟩) (n + 1) cap7)) := by
  subst hn
  have hBs : B ≤ w.heap.size := by
    rcases hR.2 with ⟨e, _⟩ | ⟨g', cap', cur', e, hg, hh, _⟩
    · cases e
    · obtain ⟨hlt, _⟩ := Array.getElem?_eq_some_iff.1 hh
      omega
  have hlow := h.low
  have hW : Below w.heap.size w (w2.alloc (.cells #[rv] 26)) := hb.alloc hb.size _
  have hbw : Below B w w7 := (hW.mono hBs).grown hgrow (by rw [size_alloc1]; have := hb.size; omega) (fun j hj => (hR.lt j hj).1)
  have hog : OwnGrid 2 26 w7 B (.slice (some ⟨g7, 0, none⟩) (L.length + 1) cap7) (L ++ [xs]) := by
    refine OwnGrid.snoc (w0 := w) (w := w2.alloc (.cells #[rv] 26)) (rv := rv) (n := L.length) (v := .slice (some ⟨g, 0, none⟩) L.length cg) (by decide) hW hBs ?_ rfl (by unfold maxLen; omega) R hR hRr hRd hown hgrow
    exact hr.keep ((Below.refl _ _).alloc (Nat.le_refl _) _)
  have hbt : BoxT 29 w7 bo (.slice (some ⟨g, 0, none⟩) L.length cg) := by
    unfold BoxT
    have hlt := h.box.lt
    rw [hgrow.block bo (by rw [size_alloc1]; have := hb.size; omega) (fun e => h.ne (by simpa [Value.ownBlock] using e)), hW.block bo hlt]
    exact h.box
  have t7 := h.two.keepB hbw hlow
  exact ⟨hbt, ⟨t7.arg.setOther (by simp; omega) _, t7.res.setOther (by simp; omega) _, t7.bel.setCell (by simp; omega) _⟩, hbt.set _, hog.setType hbt (by decide) (by decide) 0 _, hlow⟩

/-- Who is near whom among the old vertices and the new one, when the rows of ys have it. -/
def avP (L : List (List Int)) (ys : List Int) (i j : Nat) : Bool := adjB L i j || (j == L.length && hasB ys (i : Int))
theorem avP_start {L : List (List Int)} (hG : GraphP L) : L = adjL L.length (avP L []) := by
  have h := graph_adjL hG
  rw [← adjL_congr (A := avP L []) (A' := adjB L) (fun i _ j _ => by unfold avP; rw [hasB_nil]; simp)] at h
  exact h.symm
theorem avP_set {L : List (List Int)} (hG : GraphP L) (hn : L.length < 16) {y : Nat} (ys : List Int) (hy : y < L.length) : (adjL L.length (avP L ys)).set y (listM (rowM L y ||| 2 ^ L.length)) = adjL L.length (avP L (ys ++ [(y : Int)])) := by
  apply nthR_ext
  · simp [adjL_len]
  · intro i hi
    rw [List.length_set, adjL_len] at hi
    rw [adjL_nth _ hi]
    by_cases e : y = i
    · subst e
      unfold nthR
      rw [List.getD_eq_getElem?_getD, List.getElem?_set_self (by rw [adjL_len]; exact hi)]
      show listM _ = listM _
      congr 1
      apply Nat.eq_of_testBit_eq
      intro j
      rw [Nat.testBit_or, rowM_pm hG, pm_bit, pm_bit, Nat.testBit_two_pow]
      unfold avP
      rw [hasB_snoc]
      have e1 : ((y : Int) == (y : Int)) = true := by simp
      have e2 : (j == L.length) = decide (L.length = j) := by by_cases h : L.length = j <;> simp [h]; omega
      rw [e1, e2, Bool.or_true, Bool.and_true]
      by_cases hj : j < 16
      · simp [hj]
      · simp [hj, show ¬ L.length = j from by omega]
    · rw [nthR_set_ne _ e, adjL_nth _ hi]
      congr 1
      refine pm_congr (fun j _ => ?_)
      unfold avP
      rw [hasB_snoc]
      have : ((i : Int) == (y : Int)) = false := by rw [beq_eq_false_iff_ne]; omega
      rw [this, Bool.or_false]
theorem avP_end {L : List (List Int)} {xs : List Int} (hG : GraphP L) (hs : SetP xs L.length) (hn : L.length < 16) : adjL L.length (avP L xs) ++ [xs] = adjL (L.length + 1) (avA L xs) := by
  apply nthR_ext
  · simp [adjL_len]
  · intro i hi
    rw [List.length_append, List.length_singleton, adjL_len] at hi
    rw [adjL_nth _ hi]
    by_cases h : i < L.length
    · rw [nthR_append_old (by rw [adjL_len]; exact h), adjL_nth _ h]
      congr 1
      refine pm_congr (fun j _ => ?_)
      unfold avP avA
      have : (i == L.length) = false := by rw [beq_eq_false_iff_ne]; omega
      rw [this]; simp
    · obtain rfl : i = L.length := by omega
      have e := nthR_append_last (adjL L.length (avP L xs)) xs
      rw [adjL_len] at e
      rw [e]
      refine sets_eq (SetP.mk hs.pairwise (fun x hx => by have := hs.bounds x hx; omega)) (listM_set _) (fun z => ?_)
      rw [listM_mem]
      have hadj : ∀ j, adjB L L.length j = false := fun j => by
        cases hb : adjB L L.length j with
        | false => rfl
        | true => exact absurd (adjB_range hG hb).1 (by omega)
      have hself : hasB xs (L.length : Int) = false := by
        cases hb : hasB xs (L.length : Int) with
        | false => rfl
        | true =>
          have := hs.bounds _ ((hasB_mem _ _).1 hb)
          omega
      constructor
      · intro hz
        have hb := hs.bounds z hz
        obtain ⟨j, rfl⟩ : ∃ j : Nat, z = (j : Int) := ⟨z.toNat, by omega⟩
        refine ⟨j, by omega, ?_, rfl⟩
        rw [pm_bit]
        unfold avA
        rw [(hasB_mem xs (j : Int)).2 hz]
        simp; omega
      · rintro ⟨j, hj, hb, rfl⟩
        rw [pm_bit, Bool.and_eq_true] at hb
        have hb2 := hb.2
        unfold avA at hb2
        rw [hadj, hself] at hb2
        simp at hb2
        exact (hasB_mem _ _).1 hb2

end Go.Proofs.YtohjfcfcopbmoaaDoor
