/- Walks: the greatest cliques of the model. -/
import Derived.Test.YtmfolclpddoplaaQCL1
import Derived.Test.YtmfolclpddoplaaQGrid
import Derived.Test.YtmfolclpddoplaaQU2
import Derived.Test.YtmfolclpddoplaaQCO1
import Derived.Deep.RegionHeld3

namespace Go.Proofs.Ytmfolclpddoplaa
open Go.RowKit

/-- Two grids of one's own, the second made since the first lay: appended, one grid. -/
theorem OwnGrid.join {T T1 : TypeId} {w0 w w1 : World} {B n : Nat} {v v' v2 : Value} {L L2 : List (List Int)} (hT : T ≠ T1) (hb : Below w0.heap.size w0 w) (hB : B ≤ w0.heap.size)
    (R : Nat → Value) (hR : w0.ownsRow B T1 1 v L.length ((List.range L.length).map R)) (hRr : ∀ i, i < L.length → OwnRow T w0 B (R i) (nthR L i)) (hRd : ∀ i j k, i < j → j < L.length → (R i).ownBlock = some k → (R j).ownBlock ≠ some k)
    (R2 : Nat → Value) (hR2r : ∀ i, i < L2.length → OwnRow T w w0.heap.size (R2 i) (nthR L2 i)) (hR2d : ∀ i j k, i < j → j < L2.length → (R2 i).ownBlock = some k → (R2 j).ownBlock ≠ some k)
    (hlen : L.length + L2.length ≤ maxLen) (hn : n = L.length + L2.length)
    (hown : w1.ownsRow B T1 1 v' n ((List.range L.length).map R ++ (List.range L2.length).map R2)) (hg : w.grownBy w1 v.ownBlock) : OwnGrid T T1 w1 B v' (L ++ L2) := by
  subst hn
  have hown0 : w.ownsRow B T1 1 v L.length ((List.range L.length).map R) := by
    refine ⟨hR.1, ?_⟩
    rcases hR.2 with h1 | ⟨g, cap, cur, e, hgB, hh, r⟩
    · exact Or.inl h1
    · obtain ⟨hlt, _⟩ := Array.getElem?_eq_some_iff.1 hh
      exact Or.inr ⟨g, cap, cur, e, hgB, by rw [hb.block g hlt]; exact hh, r⟩
  have eL : (L ++ L2).length = L.length + L2.length := by simp
  have eR : (List.range (L ++ L2).length).map (fun i => if i < L.length then R i else R2 (i - L.length)) = (List.range L.length).map R ++ (List.range L2.length).map R2 := by
    rw [eL, List.range_add, List.map_append]
    congr 1
    · apply List.map_congr_left
      intro i hi
      rw [if_pos (by simpa using hi)]
    · rw [List.map_map]
      apply List.map_congr_left
      intro i _
      show (if L.length + i < L.length then R (L.length + i) else R2 (L.length + i - L.length)) = R2 i
      rw [if_neg (by omega), Nat.add_sub_cancel_left]
  have e1 : ∀ i, i < L.length → nthR (L ++ L2) i = nthR L i := fun i hi => by simp [nthR, List.getElem?_append_left hi]
  have e2 : ∀ i, nthR (L ++ L2) (L.length + i) = nthR L2 i := fun i => by simp [nthR, List.getElem?_append_right]
  refine OwnGrid.of_owns (R := fun i => if i < L.length then R i else R2 (i - L.length)) (by rw [eL]; exact hlen) ?_ ?_ ?_
  · rw [eR, eL]; exact hown
  · intro i hi
    rw [eL] at hi
    by_cases h1 : i < L.length
    · simp only [h1, if_true]
      rw [e1 i h1]
      exact ((hRr i h1).keep hb).grown hown0 hT hg
    · obtain ⟨j, rfl⟩ : ∃ j, i = L.length + j := ⟨i - L.length, by omega⟩
      simp only [h1, if_false, Nat.add_sub_cancel_left]
      rw [e2]
      exact ((hR2r j (by omega)).mono hB).grown hown0 hT hg
  · intro i j k hij hj hk
    rw [eL] at hj
    by_cases h1 : j < L.length
    · have hi : i < L.length := by omega
      simp only [hi, if_true] at hk
      simp only [h1, if_true]
      exact hRd i j k hij h1 hk
    · obtain ⟨q, rfl⟩ : ∃ q, j = L.length + q := ⟨j - L.length, by omega⟩
      simp only [h1, if_false, Nat.add_sub_cancel_left]
      by_cases hi : i < L.length
      · simp only [hi, if_true] at hk
        intro e
        have h3 := ((hRr i hi).lt k hk).2
        have h4 := ((hR2r q (by omega)).lt k e).1
        omega
      · obtain ⟨p, rfl⟩ : ∃ p, i = L.length + p := ⟨i - L.length, by omega⟩
        simp only [hi, if_false, Nat.add_sub_cancel_left] at hk
        exact hR2d p q k (by omega) (by omega) hk

/-- A list of vertices below n. -/
def VtxL (n : Nat) (xs : List Int) : Prop := ∀ x ∈ xs, 0 ≤ x ∧ x < (n : Int)
theorem VtxL.sub {n : Nat} {xs ys : List Int} (h : VtxL n xs) (hs : ∀ x ∈ ys, x ∈ xs) : VtxL n ys := fun x hx => h x (hs x hx)
theorem VtxL.app {n : Nat} {xs ys : List Int} (h : VtxL n xs) (h2 : VtxL n ys) : VtxL n (xs ++ ys) := fun x hx => by
  rcases List.mem_append.1 hx with h' | h'
  · exact h x h'
  · exact h2 x h'
theorem VtxL.meet {n : Nat} {A : Nat → Nat → Bool} {xs : List Int} {v : Int} (h : VtxL n xs) : VtxL n (meetA A xs v) := h.sub (fun _ hx => (meetA_mem.1 hx).1)
/-- The model's meeting with a vertex's row. -/
theorem meet_row {L : List (List Int)} (hG : GraphP L) {xs : List Int} (hx : VtxL L.length xs) {u : Nat} (hu : u < L.length) : xs.filter (fun x => hasB (nthR L u) x) = meetA (adjB L) xs (u : Int) := by
  unfold meetA
  refine List.filter_congr (fun x hxm => ?_)
  have := hx x hxm
  have hz := hG.1
  rw [Int.toNat_natCast]
  have e := adjB_has hG (i := u) (j := x.toNat) hu (by omega)
  rw [show ((x.toNat : Nat) : Int) = x by omega] at e
  exact e

theorem nth_dropL {xs : List Int} {j i : Nat} : nth (xs.drop j) i = nth xs (j + i) := by simp [nth]
theorem RowAt.dropped {w : World} {b o c o' n' c' : Nat} {xs : List Int} {n : Nat} (h : RowAt w (.slice (some ⟨b, o, none⟩) n c) xs) (hc : ∀ i, i < xs.length → w.cell? ⟨b, o + i, none⟩ = some (.int .i64 (nth xs i))) (j : Nat) (hn : n' = xs.length - j) (ho : n' ≠ 0 → o' = o + j) (h1 : n' ≤ c') (h2 : c' ≤ maxLen) :
    RowAt w (.slice (some ⟨b, o', none⟩) n' c') (xs.drop j) := by
  have e : (xs.drop j).length = n' := by rw [List.length_drop, hn]
  refine ⟨fun x hx => h.1 x (List.mem_of_mem_drop hx), by rw [e]; omega, Or.inr ⟨b, o', c', by rw [e], by omega, h2, fun i hi => ?_⟩⟩
  rw [nth_dropL, ho (by omega), Nat.add_assoc]
  exact hc (j + i) (by omega)
theorem take_news {w : World} {b o : Nat} {xs : List Int} (hc : ∀ i, i < xs.length → w.cell? ⟨b, o + i, none⟩ = some (.int .i64 (nth xs i))) (k : Nat) : ∀ j u, ((xs.take k).map (Value.int .i64))[j]? = some u → w.cell? ((⟨b, o, none⟩ : Addr).add j) = some u := fun j u hj => by
  rw [List.getElem?_map] at hj
  cases hq : (xs.take k)[j]? with
  | none => rw [hq] at hj; cases hj
  | some y =>
    rw [hq] at hj
    obtain rfl := Option.some.inj hj
    obtain ⟨h1, h2⟩ := List.getElem?_eq_some_iff.1 hq
    have hl : j < xs.length := by rw [List.length_take] at h1; omega
    have := hc j hl
    rw [nth_eq hl] at this
    rw [← h2, List.getElem_take]
    by_cases e : j = 0
    · subst e; simpa [Addr.add] using this
    · simp only [Addr.add, e]; exact this
theorem ints_oneL (xs : List Int) : ∀ u ∈ xs.map (Value.int .i64), u.oneCell' = true := fun u hu => by
  obtain ⟨x, _, rfl⟩ := List.mem_map.1 hu
  rfl

/-- .. a grid of its own make, in memory from B on, that is not nil. -/
def GaveCq (w : World) (B : Nat) (Z : List (List Int)) (e : Ending) (w' : World) : Prop :=
  ∃ m g c, e = .returned (.slice (some ⟨g, 0, none⟩) m c) ∧ OwnGrid 2 31 w' B (.slice (some ⟨g, 0, none⟩) m c) Z ∧ Below w.heap.size w w'

theorem ownsRow_keep {w w' : World} {B : Nat} {T : TypeId} {v : Value} {n : Nat} {xs : List Value} (h : w.ownsRow B T 1 v n xs) (hb : Below w.heap.size w w') : w'.ownsRow B T 1 v n xs := by
  refine ⟨h.1, ?_⟩
  rcases h.2 with h1 | ⟨g, cap, cur, e, hgB, hh, r⟩
  · exact Or.inl h1
  · obtain ⟨hlt, _⟩ := Array.getElem?_eq_some_iff.1 hh
    exact Or.inr ⟨g, cap, cur, e, hgB, by rw [hb.block g hlt]; exact hh, r⟩
theorem owns_cells {w : World} {B g n c : Nat} {T : TypeId} {xs : List Value} (h : w.ownsRow B T 1 (.slice (some ⟨g, 0, none⟩) n c) n xs) : ∀ j u, xs[j]? = some u → w.cell? ((⟨g, 0, none⟩ : Addr).add j) = some u := fun j u hj => by
  rcases h.2 with ⟨e, _⟩ | ⟨g', cap, cur, e, _, hh, _, _, _, hc⟩
  · simp at e
  · simp only [Value.slice.injEq, Option.some.injEq, Addr.mk.injEq, and_true] at e
    obtain rfl := e.1
    rw [← hc, List.getElem?_take] at hj
    have hcell : w.cell? ⟨g, j, none⟩ = some u := by
      rw [cell_of_row w g j cur _ _ hh]
      split at hj
      · simpa using hj
      · cases hj
    by_cases e : j = 0
    · subst e; simpa [Addr.add] using hcell
    · simp only [Addr.add, e, if_false, Nat.zero_add]; exact hcell
/-- There are no more of them than sets of those left. -/
theorem cqF_len (A : Nat → Nat → Bool) : ∀ (f : Nat) (set left out : List Int), (cqF A f set left out).length ≤ 2 ^ left.length
  | 0, _, left, _ => Nat.zero_le _
  | f + 1, set, left, out => by
    by_cases h : left = [] ∧ out = []
    · obtain ⟨rfl, rfl⟩ := h
      rw [cqF_leaf]; simp
    · rw [cqF_all h]
      have key : ∀ k, k ≤ left.length → (cqTo A f set left out k).length + 2 ^ (left.length - k) ≤ 2 ^ left.length := by
        intro k
        induction k with
        | zero => intro _; simp [cqTo]
        | succ k ih =>
          intro hk
          have h1 := ih (by omega)
          have h2 := cqF_len A f (set ++ [nth left k]) (meetA A (left.drop (k + 1)) (nth left k)) (meetA A (out ++ left.take k) (nth left k))
          have h3 := meetA_len A (left.drop (k + 1)) (nth left k)
          rw [List.length_drop] at h3
          have h4 : 2 ^ (meetA A (left.drop (k + 1)) (nth left k)).length ≤ 2 ^ (left.length - (k + 1)) := Nat.pow_le_pow_right (by omega) h3
          have h5 : 2 ^ (left.length - k) = 2 ^ (left.length - (k + 1)) + 2 ^ (left.length - (k + 1)) := by
            rw [show left.length - k = (left.length - (k + 1)) + 1 by omega, Nat.pow_succ]; omega
          rw [cqTo_succ, List.length_append]
          omega
      have := key left.length (Nat.le_refl _)
      rw [Nat.sub_self, Nat.pow_zero] at this
      omega
theorem cqTo_len (A : Nat → Nat → Bool) (f : Nat) (set left out : List Int) (k : Nat) (hk : k ≤ left.length) : (cqTo A f set left out k).length ≤ 2 ^ left.length := by
  by_cases h : left = [] ∧ out = []
  · obtain ⟨rfl, rfl⟩ := h
    obtain rfl : k = 0 := by simpa using hk
    simp [cqTo]
  · have h1 := cqF_len A (f + 1) set left out
    rw [cqF_all h] at h1
    have h2 : cqTo A f set left out left.length = cqTo A f set left out k ++ (List.range (left.length - k)).flatMap (fun i => cqF A f (set ++ [nth left (k + i)]) (meetA A (left.drop (k + i + 1)) (nth left (k + i))) (meetA A (out ++ left.take (k + i)) (nth left (k + i)))) := by
      unfold cqTo
      rw [show left.length = k + (left.length - k) by omega, List.range_add, List.flatMap_append]
      congr 1
      rw [List.flatMap_map]
      rw [show k + (left.length - k) - k = left.length - k by omega]
    rw [h2, List.length_append] at h1
    omega

set_option maxHeartbeats 8000000 in
set_option maxRecDepth 100000 in
theorem l8Cliques_any (a0 : Option Addr) (c0 : Nat) (L : List (List Int)) (hG : GraphP L) :
    ∀ (f : Nat) (set left out : List Int) (vs vl vo : Value) (w : World) (B : Nat), GridAt w (.slice a0 L.length c0) L → RowAt w vs set → (left = [] ∧ out = [] → OwnRow 2 w B vs set) → B ≤ w.heap.size → RowAt w vl left → RowAt w vo out →
      left.length < f → f ≤ 17 → out.length + left.length ≤ 16 → set.length + left.length ≤ 16 → VtxL L.length set → VtxL L.length left → VtxL L.length out →
      Calls Try.prog 79 #[.agg #[.slice a0 L.length c0], vs, vl, vo] w (GaveCq w B (cqF (adjB L) f set left out)) := by
  obtain ⟨i0, hi, hz0, hz1, hz2⟩ := info_parts Try.infoI
  obtain ⟨i1, hi1, hy0, hy1, hy2⟩ := info_parts Try.infoR
  have hz := hG.1
  have HGP := Lib.hid hG
  clear hG
  intro f
  induction f with
  | zero => intro set left out vs vl vo w B _ _ _ _ _ _ h; omega
  | succ f ih =>
    intro set left out vs vl vo w B hg hs hso hB hl ho hf hf17 hol hsl hvs hvl hvo
    have IH := Lib.hid ih
    clear ih
    obtain ⟨as_, cs, rfl⟩ := hs.slice
    obtain ⟨al, cl, rfl⟩ := hl.slice
    obtain ⟨ao, co, rfl⟩ := ho.slice
    obtain ⟨wA, hwA⟩ : ∃ wA, wA = w.alloc (.cells #[.slice a0 L.length c0] 29) := ⟨_, rfl⟩
    have HB0 : Hid (Below w.heap.size w wA) := by rw [hwA]; exact (Below.refl _ _).alloc (Nat.le_refl _) _
    have HX0 : Hid (BoxAt wA w.heap.size (.slice a0 L.length c0)) := by rw [hwA]; exact BoxAt.new _ _ _
    have HSZ : Hid (wA.heap.size = w.heap.size + 1) := by rw [hwA]; exact size_alloc1 _ _
    have HBW : Hid (∀ W, Below wA.heap.size wA W → Below w.heap.size w W) := fun W hb => HB0.out.trans (hb.mono HB0.out.size)
    have HKB : Hid (∀ W, Below wA.heap.size wA W → W.cell? ⟨w.heap.size, 0, none⟩ = some (.slice a0 L.length c0)) := fun W hb => (HX0.out.keep hb).1
    have HGK : Hid (∀ W, Below w.heap.size w W → GridAt W (.slice a0 L.length c0) L) := fun W hb => hg.keep hb
    have HSK : Hid (∀ W, Below w.heap.size w W → RowAt W (.slice as_ set.length cs) set) := fun W hb => hs.keep hb
    have HSO : Hid (left = [] ∧ out = [] → ∀ W, Below w.heap.size w W → OwnRow 2 W B (.slice as_ set.length cs) set) := fun h W hb => (hso h).keep hb
    have HLK : Hid (∀ W, Below w.heap.size w W → RowAt W (.slice al left.length cl) left) := fun W hb => hl.keep hb
    have HOK : Hid (∀ W, Below w.heap.size w W → RowAt W (.slice ao out.length co) out) := fun W hb => ho.keep hb
    have HVS := Lib.hid hvs
    have HVL := Lib.hid hvl
    have HVO := Lib.hid hvo
    clear hg hs hso hl ho hvs hvl hvo
    go_enter Try.func79, Try.ntmps79
    by_cases hleaf : left = [] ∧ out = []
    · obtain ⟨rfl, rfl⟩ := hleaf
      have HF : Hid (cqF (adjB L) (f + 1) set [] [] = [set]) := cqF_leaf _ _ _
      go_wp2_with fail
      rw [← hwA]
      have HLF : Hid (OwnGrid 2 31 (wA.alloc (.cells #[.slice as_ set.length cs] 31)) B (.slice (some ⟨wA.heap.size, 0, none⟩) 1 1) [set]) := by
        have hsr := HSO.out (by simp) _ (HBW.out _ ((Below.refl _ _).alloc (Nat.le_refl _) (.cells #[.slice as_ set.length cs] 31)))
        refine ⟨fun _ => .slice as_ set.length cs, by simp [maxLen], Or.inr ⟨wA.heap.size, 1, #[.slice as_ set.length cs], rfl, by have := HSZ.out; omega, heap_alloc_new wA _, Nat.le_refl _, by unfold maxLen; omega, rfl, fun i hi => ?_⟩, fun i hi => ?_, fun i j k hij hj => ?_⟩
        · obtain rfl : i = 0 := by simpa using hi
          rfl
        · obtain rfl : i = 0 := by simpa using hi
          exact hsr
        · simp at hj; omega
      go_ret
      rw [HF.out]
      exact ⟨_, _, _, rfl, by rw [← HSZ.out]; exact HLF.out, HBW.out _ ((Below.refl _ _).alloc (Nat.le_refl _) _)⟩
    · have HF := Lib.hid (cqF_all (A := adjB L) (f := f) (set := set) hleaf)
      have hq : (((left.length : Int) == 0) = true ∧ ((out.length : Int) == 0) = false) ∨ ((left.length : Int) == 0) = false := by
        by_cases h0 : left.length = 0
        · left
          refine ⟨by rw [beq_iff_eq]; omega, ?_⟩
          rw [beq_eq_false_iff_ne]
          intro e
          exact hleaf ⟨List.length_eq_zero_iff.1 h0, List.length_eq_zero_iff.1 (by omega)⟩
        · right
          rw [beq_eq_false_iff_ne]; omega
      have HO0 : Hid (OwnGrid 2 31 (wA.alloc (.cells #[] 31)) wA.heap.size (.slice (some ⟨wA.heap.size, 0, none⟩) 0 0) []) :=
        ⟨fun _ => undef, by simp, Or.inr ⟨wA.heap.size, 0, #[], rfl, Nat.le_refl _, heap_alloc_new wA _, Nat.zero_le _, Nat.zero_le _, rfl, fun i hi => absurd hi (by simp)⟩, fun i hi => absurd hi (by simp), fun i j k _ hj => absurd hj (by simp)⟩
      have HW0 : Hid (Below wA.heap.size wA (wA.alloc (.cells #[] 31))) := (Below.refl _ _).alloc (Nat.le_refl _) _
      clear hleaf
      rcases hq with ⟨q1, q2⟩ | q1
      all_goals (
        go_wp2_with fail
        rw [← hwA, ← HSZ.out]
        clear hwA
        go_loopw [9, 10] (fun fv iv wr => ∃ k : Nat, k ≤ left.length ∧ iv = .int .i64 k ∧ ∃ m g c, fv = .slice (some ⟨g, 0, none⟩) m c ∧ OwnGrid 2 31 wr wA.heap.size (.slice (some ⟨g, 0, none⟩) m c) (cqTo (adjB L) f set left out k) ∧ Below wA.heap.size wA wr) (fun _ iv _ => left.length - (intOf iv).toNat)
        case atStart => exact ⟨0, Nat.zero_le _, rfl, _, _, _, rfl, HO0.out, HW0.out⟩
        case round =>
          obtain ⟨k, hk, rfl, m, g, c, rfl, hog, hb⟩ := hrel
          have HOG := Lib.hid hog
          have HB := Lib.hid hb
          clear hog
          by_cases hlt : k < left.length
          · obtain ⟨bx, ox, cx, ex, lx1, lx2, hcx⟩ := (HLK.out _ (HBW.out _ hb)).pos (by omega)
            simp only [Value.slice.injEq, true_and] at ex
            obtain ⟨rfl, rfl⟩ := ex
            have hck := hcx k hlt
            have HCX := Lib.hid hcx
            have hkI : (k : Int) < (left.length : Int) := by omega
            have hxv := HVL.out _ (nth_mem hlt)
            have HSU := Lib.hid (cqTo_succ (adjB L) f set left out k)
            obtain ⟨x, hx⟩ : ∃ x : Nat, nth left k = (x : Int) := ⟨(nth left k).toNat, by omega⟩
            rw [hx] at hck hxv HSU
            have HXE := Lib.hid hx
            have hxn : x < L.length := by omega
            obtain ⟨bg, og, cg, AG, CG, eg, lg1, lg2, hcg⟩ := (HGK.out _ (HBW.out _ hb)).pos (by omega)
            simp only [Value.slice.injEq, true_and] at eg
            obtain ⟨rfl, rfl⟩ := eg
            obtain ⟨kn, hrn⟩ := hcg x hxn
            obtain ⟨vn, hvn⟩ : ∃ vn, vn = Value.slice (AG x) (nthR L x).length (CG x) := ⟨_, rfl⟩
            rw [← hvn] at kn hrn
            have HRN := Lib.hid hrn
            have kb := HKB.out _ hb
            have hxI : (x : Int) < (L.length : Int) := by omega
            clear hcx hcg hrn hvn hx hb
            go_wp2_with fail
            have HRK : Hid (∀ W, Below wr.heap.size wr W → ∀ n' o' c', n' = left.length - (k + 1) → (n' ≠ 0 → o' = ox + (k + 1)) → n' ≤ c' → c' ≤ maxLen → Calls Try.prog 121 #[.slice (some ⟨bx, o', none⟩) n' c', vn] W (GaveRow W (meetA (adjB L) (left.drop (k + 1)) (x : Int)))) := fun W hb n' o' c' e1 e2 e3 e4 => by
              have hvd : VtxL L.length (left.drop (k + 1)) := HVL.out.sub (fun _ h => List.mem_of_mem_drop h)
              have h := l8Meet_any _ vn (left.drop (k + 1)) (nthR L x) W (((HLK.out _ (HBW.out _ (HB.out.trans (hb.mono HB.out.size)))).dropped (fun i hi => cell_keep hb (HCX.out i hi)) (k + 1) e1 e2 e3 e4)) (HRN.out.keep hb) (by rw [List.length_drop]; omega) (fun y hy => by have := hvd y hy; omega)
              rw [meet_row HGP.out hvd hxn] at h
              exact h
            have HOM : Hid (∀ W v9, Below wr.heap.size wr W → RowAt W v9 (out ++ left.take k) → Calls Try.prog 121 #[v9, vn] W (GaveRow W (meetA (adjB L) (out ++ left.take k) (x : Int)))) := fun W v9 hb h9 => by
              have hvo : VtxL L.length (out ++ left.take k) := HVO.out.app (HVL.out.sub (fun _ h => List.mem_of_mem_take h))
              have h := l8Meet_any v9 vn (out ++ left.take k) (nthR L x) W h9 (HRN.out.keep hb) (by rw [List.length_append, List.length_take]; omega) (fun y hy => by have := hvo y hy; omega)
              rw [meet_row HGP.out hvo hxn] at h
              exact h
            have HSC : Hid (∀ W, Below wr.heap.size wr W → Calls Try.prog 120 #[.slice as_ set.length cs] W (GaveRow W set)) := fun W hb => l1Copy_any _ set W (HSK.out _ (HBW.out _ (HB.out.trans (hb.mono HB.out.size)))) (by omega)
            have HOC : Hid (∀ W, Below wr.heap.size wr W → Calls Try.prog 120 #[.slice ao out.length co] W (GaveRow W out)) := fun W hb => l1Copy_any _ out W (HOK.out _ (HBW.out _ (HB.out.trans (hb.mono HB.out.size)))) (by omega)
            have HIX : Hid (∀ W v6 v7 v10, Below wr.heap.size wr W → OwnRow 2 W wr.heap.size v6 (set ++ [(x : Int)]) → RowAt W v7 (meetA (adjB L) (left.drop (k + 1)) (x : Int)) → RowAt W v10 (meetA (adjB L) (out ++ left.take k) (x : Int)) → Calls Try.prog 79 #[.agg #[.slice (some ⟨bg, og, none⟩) L.length c0], v6, v7, v10] W (GaveCq W wr.heap.size (cqF (adjB L) f (set ++ [(x : Int)]) (meetA (adjB L) (left.drop (k + 1)) (x : Int)) (meetA (adjB L) (out ++ left.take k) (x : Int))))) := fun W v6 v7 v10 hb h6 h7 h10 => by
              have hvd : VtxL L.length (left.drop (k + 1)) := HVL.out.sub (fun _ h => List.mem_of_mem_drop h)
              have hvo : VtxL L.length (out ++ left.take k) := HVO.out.app (HVL.out.sub (fun _ h => List.mem_of_mem_take h))
              have m1 := meetA_len (adjB L) (left.drop (k + 1)) (x : Int)
              have m2 := meetA_len (adjB L) (out ++ left.take k) (x : Int)
              rw [List.length_drop] at m1
              rw [List.length_append, List.length_take] at m2
              exact IH.out _ _ _ v6 v7 v10 W wr.heap.size (HGK.out _ (HBW.out _ (HB.out.trans (hb.mono HB.out.size)))) h6.row (fun _ => h6) hb.size h7 h10 (by omega) (by omega) (by omega) (by rw [List.length_append, List.length_singleton]; omega) (HVS.out.app (fun y hy => by rw [List.mem_singleton] at hy; subst hy; exact hxv)) hvd.meet hvo.meet
            have HLIT : Hid (∀ w', Below (wr.alloc (.cells #[.int .i64 (x : Int)] 2)).heap.size (wr.alloc (.cells #[.int .i64 (x : Int)] 2)) w' → ∀ j u, ([Value.int .i64 (x : Int)] : List Value)[j]? = some u → w'.cell? ((⟨wr.heap.size, 0, none⟩ : Addr).add j) = some u) := fun w' hb j u hj => cell_keep hb (lit1 wr _ _ j u hj)
            have HI64 : Hid (∀ y ∈ set ++ [(x : Int)], I64 y) := fun y hy => by
              rcases List.mem_append.1 hy with h | h
              · have := HVS.out y h; unfold I64; omega
              · rw [List.mem_singleton] at h; subst h; unfold I64; omega
            have HI64o : Hid (∀ y ∈ out ++ left.take k, I64 y) := fun y hy => by
              rcases List.mem_append.1 hy with h | h
              · have := HVO.out y h; unfold I64; omega
              · have := HVL.out y (List.mem_of_mem_take h); unfold I64; omega
            have HTN : Hid (∀ W, Below wr.heap.size wr W → ∀ j u, ((left.take k).map (Value.int .i64))[j]? = some u → W.cell? ((⟨bx, ox, none⟩ : Addr).add j) = some u) := fun W hb => take_news (fun i hi => cell_keep hb (HCX.out i hi)) k
            have htl : (left.take k).length = k := by rw [List.length_take]; omega
            have KS : Hid (∀ W, Below wr.heap.size wr W → W.cell? ⟨w.heap.size, 0, none⟩ = some (.slice (some ⟨bg, og, none⟩) L.length c0) ∧ W.cell? ⟨bg, og + x, none⟩ = some vn) := fun W hb => ⟨cell_keep hb kb, cell_keep hb kn⟩
            have ks := KS.out _ (Below.refl _ _)
            clear kb kn hck
            obtain ⟨q, HQ⟩ : ∃ q : Nat, Hid (q = k + 1) := ⟨k + 1, rfl⟩
            have hwq : IntKind.i64.wrap ((k : Int) + 1) = (q : Int) := by rw [IntKind.wrap_i64]; have := HQ.out; omega
            have hql : (q : Int) ≤ (left.length : Int) := by have := HQ.out; omega
            have hkc : (k : Int) ≤ (cl : Int) := by omega
            go_cut [12] (fun rv wy => ∃ m a c, rv = .slice (some ⟨a, 0, none⟩) m c ∧ OwnGrid 2 31 wy wr.heap.size (.slice (some ⟨a, 0, none⟩) m c) (cqF (adjB L) f (set ++ [(x : Int)]) (meetA (adjB L) (left.drop (k + 1)) (x : Int)) (meetA (adjB L) (out ++ left.take k) (x : Int))) ∧ Below wr.heap.size wr wy)
            case first =>
              have hsp : (cl = q) = True ∨ (cl = q) = False := by
                by_cases e : cl = q
                · exact Or.inl (eq_true e)
                · exact Or.inr (eq_false e)
              rcases hsp with hsp | hsp
              · have HM7 : Hid (∀ W, Below wr.heap.size wr W → Calls Try.prog 121 #[.slice (some ⟨bx, ox, none⟩) (left.length - q) (cl - q), vn] W (GaveRow W (meetA (adjB L) (left.drop (k + 1)) (x : Int)))) := fun W hb => HRK.out W hb _ _ _ (by rw [HQ.out]) (fun h => absurd h (by have := of_eq_true hsp; omega)) (by omega) (by omega)
                go_region_held3 (fun wy => wy.cell? ⟨w.heap.size, 0, none⟩ = some (.slice (some ⟨bg, og, none⟩) L.length c0) ∧ wy.cell? ⟨bg, og + x, none⟩ = some vn) (first | exact ks | with_reducible exact KS.out _ (Below.refl _ _).drew | with_reducible exact KS.out _ ((Below.refl _ _).alloc (Nat.le_refl _) _).drew | with_reducible exact KS.out _ HB5.out | with_reducible exact KS.out _ (HB5.out.alloc HB5.out.size _) | with_reducible exact KS.out _ HB6.out | with_reducible exact KS.out _ HB7.out | with_reducible exact KS.out _ HB8.out | with_reducible exact KS.out _ HB9.out | with_reducible exact KS.out _ HB10.out | with_reducible exact KS.out _ HB11.out)
                (first
                  | (go_at_call 120; (with_reducible refine (HSC.out _ (by first | with_reducible exact (Below.refl _ _).drew | with_reducible exact ((Below.refl _ _).alloc (Nat.le_refl _) _).drew)).mono ?_); rintro e w5 ⟨n5, a5, c5, rfl, ho5, hb5⟩; have HB5 : Hid (Below wr.heap.size wr w5) := (by first | exact (Below.refl _ _).drew.trans hb5 | exact ((Below.refl _ _).alloc (Nat.le_refl _) _).drew.trans (hb5.mono (by show _ ≤ (wr.alloc _).heap.size; rw [size_alloc1]; exact Nat.le_succ _))); have HO5 : Hid (OwnRow 2 w5 wr.heap.size (.slice a5 n5 c5) set) := (by first | exact ho5 | exact ho5.mono (by show _ ≤ (wr.alloc _).heap.size; rw [size_alloc1]; exact Nat.le_succ _)); (first | (have HL5 := Lib.hid (HLIT.out _ (Below.trans (Below.refl _ _).drew hb5))) | skip); clear ho5 hb5)
                  | (refine step_append_own _ (by rfl) (.tmp 36) (.tmp 38) 31 (by rfl) wr.heap.size 2 i0 (.int .i64 0) 1 8 Try.underlying31 hi hz0 hz1 hz2 rfl (by omega) (.slice a5 n5 c5) _ _ (by rfl) (HO5.out.owns.alloc _) ⟨w5.heap.size, 0, none⟩ 1 1 [.int .i64 (x : Int)] (by rfl) (by rfl) (lit1 _ _ _) (one1 _) (by unfold maxLen; omega) (by omega) (by have := HB5.out.size; simp; omega) ?_; intro v6 w6 hown6 hgrow6; have HB6 : Hid (Below wr.heap.size wr w6) := (HB5.out.alloc HB5.out.size _).grown hgrow6 (by have := HB5.out.size; simp; omega) (fun j hj => (HO5.out.lt j hj).1); have HO6 : Hid (OwnRow 2 w6 wr.heap.size v6 (set ++ [(x : Int)])) := OwnRow.of_ownsRow (n := set.length + 1) (by simpa using hown6) (by simp; unfold maxLen; omega) HI64.out; clear hown6 hgrow6)
                  | (refine step_append_own _ (by rfl) (.tmp 36) (.tmp 38) 31 (by rfl) wr.heap.size 2 i0 (.int .i64 0) 1 8 Try.underlying31 hi hz0 hz1 hz2 rfl (by omega) (.slice a5 n5 c5) _ _ (by rfl) HO5.out.owns ⟨wr.heap.size, 0, none⟩ 1 1 [.int .i64 (x : Int)] (by rfl) (by rfl) HL5.out (one1 _) (by unfold maxLen; omega) (by omega) HB5.out.size ?_; intro v6 w6 hown6 hgrow6; have HB6 : Hid (Below wr.heap.size wr w6) := HB5.out.grown hgrow6 HB5.out.size (fun j hj => (HO5.out.lt j hj).1); have HO6 : Hid (OwnRow 2 w6 wr.heap.size v6 (set ++ [(x : Int)])) := OwnRow.of_ownsRow (n := set.length + 1) (by simpa using hown6) (by simp; unfold maxLen; omega) HI64.out; clear hown6 hgrow6)
                  | (go_at_call 121; (with_reducible refine (HM7.out _ HB6.out).mono ?_); rintro e w7 ⟨n7, a7, c7, rfl, ho7, hb7⟩; have HB7 : Hid (Below wr.heap.size wr w7) := HB6.out.trans (hb7.mono HB6.out.size); have HO67 := Lib.hid (HO6.out.keep hb7); have HR7 := Lib.hid ho7.row; clear ho7 hb7 HO6)
                  | (go_at_call 120; (with_reducible refine (HOC.out _ HB7.out).mono ?_); rintro e w8 ⟨n8, a8, c8, rfl, ho8, hb8⟩; have HB8 : Hid (Below wr.heap.size wr w8) := HB7.out.trans (hb8.mono HB7.out.size); have HB78 : Hid (Below w7.heap.size w7 w8) := hb8; have HO8 := Lib.hid ho8; clear ho8 hb8)
                  | (refine step_append_own _ (by rfl) (.tmp 51) (.tmp 54) 31 (by rfl) w7.heap.size 2 i0 (.int .i64 0) 1 8 Try.underlying31 hi hz0 hz1 hz2 rfl (by omega) (.slice a8 n8 c8) _ _ (by rfl) HO8.out.owns ⟨bx, ox, none⟩ k cl ((left.take k).map (Value.int .i64)) (by rfl) (by rw [List.length_map, htl, Nat.mul_one]) (HTN.out _ HB8.out) (ints_oneL _) (by unfold maxLen; omega) (by omega) HB78.out.size ?_; intro v9 w9 hown9 hgrow9; have HB79 : Hid (Below w7.heap.size w7 w9) := HB78.out.grown hgrow9 HB78.out.size (fun j hj => (HO8.out.lt j hj).1); have HB9 : Hid (Below wr.heap.size wr w9) := HB7.out.trans (HB79.out.mono HB7.out.size); have HR9 : Hid (RowAt w9 v9 (out ++ left.take k)) := (OwnRow.of_ownsRow (xs := out ++ left.take k) (n := out.length + k) (by rw [List.map_append]; exact hown9) (by rw [List.length_append, htl]; unfold maxLen; omega) HI64o.out).row; clear hown9 hgrow9)
                  | (go_at_call 121; (with_reducible refine (HOM.out _ v9 HB9.out HR9.out).mono ?_); rintro e w10 ⟨n10, a10, c10, rfl, ho10, hb10⟩; have HB10 : Hid (Below wr.heap.size wr w10) := HB9.out.trans (hb10.mono HB9.out.size); have HB710 : Hid (Below w7.heap.size w7 w10) := HB79.out.trans (hb10.mono HB79.out.size); have HR10 := Lib.hid ho10.row; clear ho10 hb10)
                  | (go_at_call 79; (with_reducible refine (HIX.out _ _ _ _ HB10.out (HO67.out.keep HB710.out) (HR7.out.keep HB710.out) HR10.out).mono ?_); rintro e w11 ⟨n11, a11, c11, rfl, ho11, hb11⟩; have HB11 : Hid (Below wr.heap.size wr w11) := HB10.out.trans (hb11.mono HB10.out.size); have HO11 := Lib.hid ho11; clear ho11 hb11))
                all_goals (
                  go_wp2_with fail
                  go_meet
                  exact ⟨_, _, _, rfl, HO11.out, HB11.out⟩)
              · have HM7 : Hid (∀ W, Below wr.heap.size wr W → Calls Try.prog 121 #[.slice (some ⟨bx, ox + q, none⟩) (left.length - q) (cl - q), vn] W (GaveRow W (meetA (adjB L) (left.drop (k + 1)) (x : Int)))) := fun W hb => HRK.out W hb _ _ _ (by rw [HQ.out]) (fun _ => by rw [HQ.out]) (by omega) (by omega)
                go_region_held3 (fun wy => wy.cell? ⟨w.heap.size, 0, none⟩ = some (.slice (some ⟨bg, og, none⟩) L.length c0) ∧ wy.cell? ⟨bg, og + x, none⟩ = some vn) (first | exact ks | with_reducible exact KS.out _ (Below.refl _ _).drew | with_reducible exact KS.out _ ((Below.refl _ _).alloc (Nat.le_refl _) _).drew | with_reducible exact KS.out _ HB5.out | with_reducible exact KS.out _ (HB5.out.alloc HB5.out.size _) | with_reducible exact KS.out _ HB6.out | with_reducible exact KS.out _ HB7.out | with_reducible exact KS.out _ HB8.out | with_reducible exact KS.out _ HB9.out | with_reducible exact KS.out _ HB10.out | with_reducible exact KS.out _ HB11.out)
                (first
                  | (go_at_call 120; (with_reducible refine (HSC.out _ (by first | with_reducible exact (Below.refl _ _).drew | with_reducible exact ((Below.refl _ _).alloc (Nat.le_refl _) _).drew)).mono ?_); rintro e w5 ⟨n5, a5, c5, rfl, ho5, hb5⟩; have HB5 : Hid (Below wr.heap.size wr w5) := (by first | exact (Below.refl _ _).drew.trans hb5 | exact ((Below.refl _ _).alloc (Nat.le_refl _) _).drew.trans (hb5.mono (by show _ ≤ (wr.alloc _).heap.size; rw [size_alloc1]; exact Nat.le_succ _))); have HO5 : Hid (OwnRow 2 w5 wr.heap.size (.slice a5 n5 c5) set) := (by first | exact ho5 | exact ho5.mono (by show _ ≤ (wr.alloc _).heap.size; rw [size_alloc1]; exact Nat.le_succ _)); (first | (have HL5 := Lib.hid (HLIT.out _ (Below.trans (Below.refl _ _).drew hb5))) | skip); clear ho5 hb5)
                  | (refine step_append_own _ (by rfl) (.tmp 36) (.tmp 38) 31 (by rfl) wr.heap.size 2 i0 (.int .i64 0) 1 8 Try.underlying31 hi hz0 hz1 hz2 rfl (by omega) (.slice a5 n5 c5) _ _ (by rfl) (HO5.out.owns.alloc _) ⟨w5.heap.size, 0, none⟩ 1 1 [.int .i64 (x : Int)] (by rfl) (by rfl) (lit1 _ _ _) (one1 _) (by unfold maxLen; omega) (by omega) (by have := HB5.out.size; simp; omega) ?_; intro v6 w6 hown6 hgrow6; have HB6 : Hid (Below wr.heap.size wr w6) := (HB5.out.alloc HB5.out.size _).grown hgrow6 (by have := HB5.out.size; simp; omega) (fun j hj => (HO5.out.lt j hj).1); have HO6 : Hid (OwnRow 2 w6 wr.heap.size v6 (set ++ [(x : Int)])) := OwnRow.of_ownsRow (n := set.length + 1) (by simpa using hown6) (by simp; unfold maxLen; omega) HI64.out; clear hown6 hgrow6)
                  | (refine step_append_own _ (by rfl) (.tmp 36) (.tmp 38) 31 (by rfl) wr.heap.size 2 i0 (.int .i64 0) 1 8 Try.underlying31 hi hz0 hz1 hz2 rfl (by omega) (.slice a5 n5 c5) _ _ (by rfl) HO5.out.owns ⟨wr.heap.size, 0, none⟩ 1 1 [.int .i64 (x : Int)] (by rfl) (by rfl) HL5.out (one1 _) (by unfold maxLen; omega) (by omega) HB5.out.size ?_; intro v6 w6 hown6 hgrow6; have HB6 : Hid (Below wr.heap.size wr w6) := HB5.out.grown hgrow6 HB5.out.size (fun j hj => (HO5.out.lt j hj).1); have HO6 : Hid (OwnRow 2 w6 wr.heap.size v6 (set ++ [(x : Int)])) := OwnRow.of_ownsRow (n := set.length + 1) (by simpa using hown6) (by simp; unfold maxLen; omega) HI64.out; clear hown6 hgrow6)
                  | (go_at_call 121; (with_reducible refine (HM7.out _ HB6.out).mono ?_); rintro e w7 ⟨n7, a7, c7, rfl, ho7, hb7⟩; have HB7 : Hid (Below wr.heap.size wr w7) := HB6.out.trans (hb7.mono HB6.out.size); have HO67 := Lib.hid (HO6.out.keep hb7); have HR7 := Lib.hid ho7.row; clear ho7 hb7 HO6)
                  | (go_at_call 120; (with_reducible refine (HOC.out _ HB7.out).mono ?_); rintro e w8 ⟨n8, a8, c8, rfl, ho8, hb8⟩; have HB8 : Hid (Below wr.heap.size wr w8) := HB7.out.trans (hb8.mono HB7.out.size); have HB78 : Hid (Below w7.heap.size w7 w8) := hb8; have HO8 := Lib.hid ho8; clear ho8 hb8)
                  | (refine step_append_own _ (by rfl) (.tmp 51) (.tmp 54) 31 (by rfl) w7.heap.size 2 i0 (.int .i64 0) 1 8 Try.underlying31 hi hz0 hz1 hz2 rfl (by omega) (.slice a8 n8 c8) _ _ (by rfl) HO8.out.owns ⟨bx, ox, none⟩ k cl ((left.take k).map (Value.int .i64)) (by rfl) (by rw [List.length_map, htl, Nat.mul_one]) (HTN.out _ HB8.out) (ints_oneL _) (by unfold maxLen; omega) (by omega) HB78.out.size ?_; intro v9 w9 hown9 hgrow9; have HB79 : Hid (Below w7.heap.size w7 w9) := HB78.out.grown hgrow9 HB78.out.size (fun j hj => (HO8.out.lt j hj).1); have HB9 : Hid (Below wr.heap.size wr w9) := HB7.out.trans (HB79.out.mono HB7.out.size); have HR9 : Hid (RowAt w9 v9 (out ++ left.take k)) := (OwnRow.of_ownsRow (xs := out ++ left.take k) (n := out.length + k) (by rw [List.map_append]; exact hown9) (by rw [List.length_append, htl]; unfold maxLen; omega) HI64o.out).row; clear hown9 hgrow9)
                  | (go_at_call 121; (with_reducible refine (HOM.out _ v9 HB9.out HR9.out).mono ?_); rintro e w10 ⟨n10, a10, c10, rfl, ho10, hb10⟩; have HB10 : Hid (Below wr.heap.size wr w10) := HB9.out.trans (hb10.mono HB9.out.size); have HB710 : Hid (Below w7.heap.size w7 w10) := HB79.out.trans (hb10.mono HB79.out.size); have HR10 := Lib.hid ho10.row; clear ho10 hb10)
                  | (go_at_call 79; (with_reducible refine (HIX.out _ _ _ _ HB10.out (HO67.out.keep HB710.out) (HR7.out.keep HB710.out) HR10.out).mono ?_); rintro e w11 ⟨n11, a11, c11, rfl, ho11, hb11⟩; have HB11 : Hid (Below wr.heap.size wr w11) := HB10.out.trans (hb11.mono HB10.out.size); have HO11 := Lib.hid ho11; clear ho11 hb11))
                all_goals (
                  go_wp2_with fail
                  go_meet
                  exact ⟨_, _, _, rfl, HO11.out, HB11.out⟩)
            case rest =>
              rename World => wy
              obtain ⟨m2, a2, c2, rfl, ho2, hb2⟩ := hcut
              clear hwq hql hkc
              have HO2 := Lib.hid ho2
              have HB2 := Lib.hid hb2
              have hl2 := cqF_len (adjB L) f (set ++ [(x : Int)]) (meetA (adjB L) (left.drop (k + 1)) (x : Int)) (meetA (adjB L) (out ++ left.take k) (x : Int))
              have hl1 := cqTo_len (adjB L) f set left out k (by omega)
              have hp1 : 2 ^ left.length ≤ 2 ^ 16 := Nat.pow_le_pow_right (by omega) (by omega)
              have hp2 : 2 ^ (meetA (adjB L) (left.drop (k + 1)) (x : Int)).length ≤ 2 ^ 16 := Nat.pow_le_pow_right (by omega) (by
                have m1 := meetA_len (adjB L) (left.drop (k + 1)) (x : Int)
                rw [List.length_drop] at m1
                omega)
              obtain ⟨Z1, hZ1⟩ : ∃ Z1, Z1 = cqTo (adjB L) f set left out k := ⟨_, rfl⟩
              obtain ⟨Z2, hZ2⟩ : ∃ Z2, Z2 = cqF (adjB L) f (set ++ [(x : Int)]) (meetA (adjB L) (left.drop (k + 1)) (x : Int)) (meetA (adjB L) (out ++ left.take k) (x : Int)) := ⟨_, rfl⟩
              rw [← hZ1] at HOG HSU hl1
              rw [← hZ2] at HO2 HSU hl2
              have hL1 : Z1.length ≤ 65536 := Nat.le_trans hl1 (Nat.le_trans hp1 (by decide))
              have hL2 : Z2.length ≤ 65536 := Nat.le_trans hl2 (Nat.le_trans hp2 (by decide))
              obtain rfl : m = Z1.length := by
                obtain ⟨a3, c3, e3⟩ := HOG.out.grid.slice
                simp only [Value.slice.injEq] at e3
                exact e3.2.1
              obtain rfl : m2 = Z2.length := by
                obtain ⟨a3, c3, e3⟩ := HO2.out.grid.slice
                simp only [Value.slice.injEq] at e3
                exact e3.2.1
              obtain ⟨R, hR, hRr, hRd⟩ := HOG.out.owns
              obtain ⟨R2, hR2, hR2r, hR2d⟩ := HO2.out.owns
              have HOWN := Lib.hid (ownsRow_keep hR HB2.out)
              have HNEWS := Lib.hid (owns_cells hR2)
              have HONE : Hid (∀ u ∈ (List.range Z2.length).map R2, u.oneCell' = true) := fun u hu => by
                obtain ⟨i, hi, rfl⟩ := List.mem_map.1 hu
                exact (hR2r i (by simpa using hi)).one
              have HJ : Hid (∀ v' w1, w1.ownsRow wA.heap.size 31 1 v' (Z1.length + Z2.length) ((List.range Z1.length).map R ++ (List.range Z2.length).map R2) → wy.grownBy w1 (Value.slice (some ⟨g, 0, none⟩) Z1.length c).ownBlock → OwnGrid 2 31 w1 wA.heap.size v' (Z1 ++ Z2)) := fun v' w1 h1 h2 =>
                OwnGrid.join (v2 := .slice none 0 0) (by decide) HB2.out HB.out.size R hR hRr hRd R2 hR2r hR2d (by unfold maxLen; omega) rfl h1 h2
              have HLT : Hid (∀ j, (Value.slice (some ⟨g, 0, none⟩) Z1.length c).ownBlock = some j → wA.heap.size ≤ j) := fun j hj => (HOWN.out.lt j hj).1
              have hwA2 : wA.heap.size ≤ wy.heap.size := Nat.le_trans HB.out.size HB2.out.size
              clear hR hRr hRd hR2 hR2r hR2d hb2 ho2 hZ1 hZ2 hp1 hp2 hl1 hl2
              go_wp2_with (at_builtin; refine wpList_append_own _ rfl (.tmp 63) (.tmp 64) 27 rfl wA.heap.size 31 i1 (.slice none 0 0) 1 24 Try.underlying27 hi1 hy0 hy1 hy2 rfl (by decide) _ _ _ rfl HOWN.out ⟨a2, 0, none⟩ Z2.length c2 ((List.range Z2.length).map R2) rfl (by rw [List.length_map, List.length_range, Nat.mul_one]) HNEWS.out HONE.out ?d3 ?d4 ?d5 ?_)
              case d3 => unfold maxLen; omega
              case d4 => omega
              case d5 => exact hwA2
              intro v13 w13 hown13 hgrow13 hnn13
              have hog13 := HJ.out v13 w13 hown13 hgrow13
              have HEND : Hid (∃ g3 c3, v13 = .slice (some ⟨g3, 0, none⟩) (Z1 ++ Z2).length c3) := by
                obtain ⟨R3, _, h3, _⟩ := hog13
                rcases h3 with ⟨e, _⟩ | ⟨g3, c3, _, e, _⟩
                · exact (hnn13 e).elim
                · exact ⟨g3, c3, e⟩
              obtain ⟨g3, c3, e13⟩ := HEND.out
              subst e13
              have HOG3 : Hid (OwnGrid 2 31 w13 wA.heap.size (.slice (some ⟨g3, 0, none⟩) (Z1 ++ Z2).length c3) (cqTo (adjB L) f set left out (k + 1))) := by rw [HSU.out]; exact hog13
              have HB13 : Hid (Below wA.heap.size wA w13) := (HB.out.trans (HB2.out.mono HB.out.size)).trans ((Below.refl _ _).grown hgrow13 hwA2 HLT.out)
              clear hown13 hgrow13 hnn13 hog13 HEND
              go_wp2
              go_roundw
              case rel => exact ⟨k + 1, by omega, by go_num, _, _, _, rfl, HOG3.out, HB13.out⟩
              case measure => simp [intOf]; omega
          · obtain rfl : k = left.length := by omega
            clear hb
            go_wp2
            go_ret
            exact ⟨_, _, _, rfl, by rw [HF.out]; exact HOG.out.mono (by have := HSZ.out; omega), HBW.out _ HB.out⟩)


end Go.Proofs.Ytmfolclpddoplaa
