/- The texts Grid, D1, D4, joined. -/
import Derived.Test.YtohjfcfcopbmoaaGreatDoorQBase
import Derived.Test.YtohjfcfcopbmoaaGreatDoorQC1
import Derived.Test.YtohjfcfcopbmoaaGreatDoorQLater
import Derived.Test.YtohjfcfcopbmoaaGreatDoorQEqArr

/- A slice of slices that the call makes itself, appended to row by row. No statement of the program. -/
namespace Go.Proofs.YtohjfcfcopbmoaaGreatDoor
open Go.RowKit

theorem nthR_append_last (L : List (List Int)) (xs : List Int) : nthR (L ++ [xs]) L.length = xs := by simp [nthR]
theorem nthR_append_old {L : List (List Int)} {xs : List Int} {i : Nat} (h : i < L.length) : nthR (L ++ [xs]) i = nthR L i := by simp [nthR, List.getElem?_append_left h]
/-- What an OwnGrid owns, as the laws on append say it. -/
theorem OwnGrid.owns {T T1 : TypeId} {w : World} {B : Nat} {v : Value} {L : List (List Int)} (h : OwnGrid T T1 w B v L) :
    ∃ R : Nat → Value, w.ownsRow B T1 1 v L.length ((List.range L.length).map R) ∧ (∀ i, i < L.length → OwnRow T w B (R i) (nthR L i)) ∧ ∀ i j k, i < j → j < L.length → (R i).ownBlock = some k → (R j).ownBlock ≠ some k := by
  obtain ⟨R, h2, h3, h4, h5⟩ := h
  refine ⟨R, ⟨by simp, ?_⟩, h4, h5⟩
  rcases h3 with ⟨e, e'⟩ | ⟨g, cap, cur, e, hg, hh, l1, l2, hs, hc⟩
  · exact Or.inl ⟨e, by rw [e']; rfl⟩
  · refine Or.inr ⟨g, cap, cur, e, hg, hh, l1, l2, by omega, ?_⟩
    apply List.ext_getElem?
    intro i
    rw [List.getElem?_take, Nat.mul_one]
    by_cases hi : i < L.length
    · rw [if_pos hi]
      have := hc i hi
      simp [hi]
      simpa using this
    · rw [if_neg hi, List.getElem?_eq_none (by simp; omega)]

theorem OwnGrid.of_owns {T T1 : TypeId} {w : World} {B : Nat} {v : Value} {L : List (List Int)} {R : Nat → Value} (hm : L.length ≤ maxLen) (h : w.ownsRow B T1 1 v L.length ((List.range L.length).map R)) (h4 : ∀ i, i < L.length → OwnRow T w B (R i) (nthR L i))
    (h5 : ∀ i j k, i < j → j < L.length → (R i).ownBlock = some k → (R j).ownBlock ≠ some k) : OwnGrid T T1 w B v L := by
  refine ⟨R, hm, ?_, h4, h5⟩
  rcases h.2 with ⟨e, e'⟩ | ⟨g, cap, cur, e, hg, hh, l1, l2, hs, hc⟩
  · exact Or.inl ⟨e, List.length_eq_zero_iff.1 e'⟩
  · refine Or.inr ⟨g, cap, cur, e, hg, hh, l1, l2, by omega, fun i hi => ?_⟩
    have h6 : (cur.toList.take (L.length * 1))[i]? = ((List.range L.length).map R)[i]? := by rw [hc]
    rw [List.getElem?_take, Nat.mul_one, if_pos hi] at h6
    simp [hi] at h6
    simpa using h6

/-- A row stays what it is while another block, of another type, is written or new blocks are laid. -/
theorem OwnRow.grown {T T1 : TypeId} {w w' : World} {B B' : Nat} {v u : Value} {xs : List Int} {n : Nat} {ys : List Value} (h : OwnRow T w B v xs) (hu : w.ownsRow B' T1 1 u n ys) (hT : T ≠ T1) (hg : w.grownBy w' u.ownBlock) : OwnRow T w' B v xs := by
  obtain ⟨h1, h2, h3⟩ := h
  refine ⟨h1, h2, ?_⟩
  rcases h3 with h3 | ⟨g, cap, cur, e, hgB, hh, r⟩
  · exact Or.inl h3
  · refine Or.inr ⟨g, cap, cur, e, hgB, ?_, r⟩
    obtain ⟨hlt, _⟩ := Array.getElem?_eq_some_iff.1 hh
    rw [hg.block g hlt]
    · exact hh
    · intro e2
      rcases hu.2 with ⟨e3, _⟩ | ⟨g', cap', cur', e3, _, hh', _⟩
      · rw [e3] at e2; simp [Value.ownBlock] at e2
      · rw [e3] at e2
        simp [Value.ownBlock] at e2
        subst e2
        rw [hh] at hh'
        simp at hh'
        exact hT hh'.2

theorem OwnRow.one {T : TypeId} {w : World} {B : Nat} {v : Value} {xs : List Int} (h : OwnRow T w B v xs) : v.oneCell' = true := by
  rcases h.2.2 with ⟨e, _⟩ | ⟨g, cap, cur, e, _⟩
  · rw [e]; rfl
  · rw [e]; rfl

/-- A grid of the old world w0, a row laid since: appended, one grid. -/
theorem OwnGrid.snoc {T T1 : TypeId} {w0 w w1 : World} {B n : Nat} {v v' rv : Value} {L : List (List Int)} {xs : List Int} (hT : T ≠ T1) (hb : Below w0.heap.size w0 w) (hB : B ≤ w0.heap.size) (hr : OwnRow T w w0.heap.size rv xs)
    (hm : n = L.length) (hlen : L.length + 1 ≤ maxLen) (R : Nat → Value) (hR : w0.ownsRow B T1 1 v L.length ((List.range L.length).map R)) (hRr : ∀ i, i < L.length → OwnRow T w0 B (R i) (nthR L i)) (hRd : ∀ i j k, i < j → j < L.length → (R i).ownBlock = some k → (R j).ownBlock ≠ some k)
    (hown : w1.ownsRow B T1 1 v' (n + 1) ((List.range L.length).map R ++ [rv])) (hg : w.grownBy w1 v.ownBlock) : OwnGrid T T1 w1 B v' (L ++ [xs]) := by
  subst hm
  have hown0 : w.ownsRow B T1 1 v L.length ((List.range L.length).map R) := by
    refine ⟨hR.1, ?_⟩
    rcases hR.2 with h1 | ⟨g, cap, cur, e, hgB, hh, r⟩
    · exact Or.inl h1
    · obtain ⟨hlt, _⟩ := Array.getElem?_eq_some_iff.1 hh
      exact Or.inr ⟨g, cap, cur, e, hgB, by rw [hb.block g hlt]; exact hh, r⟩
  have eL : (L ++ [xs]).length = L.length + 1 := by simp
  have eR : (List.range (L ++ [xs]).length).map (fun i => if i < L.length then R i else rv) = (List.range L.length).map R ++ [rv] := by
    rw [eL, List.range_succ, List.map_append]
    congr 1
    · apply List.map_congr_left
      intro i hi
      rw [if_pos (by simpa using hi)]
    · simp
  refine OwnGrid.of_owns (R := fun i => if i < L.length then R i else rv) (by rw [eL]; exact hlen) ?_ ?_ ?_
  · rw [eR, eL]; exact hown
  · intro i hi
    rw [eL] at hi
    by_cases h1 : i < L.length
    · simp only [h1, if_true]
      rw [nthR_append_old h1]
      exact ((hRr i h1).keep hb).grown hown0 hT hg
    · obtain rfl : i = L.length := by omega
      simp only [Nat.lt_irrefl, if_false]
      rw [nthR_append_last]
      exact (hr.mono hB).grown hown0 hT hg
  · intro i j k hij hj hk
    rw [eL] at hj
    have hi : i < L.length := by omega
    simp only [hi, if_true] at hk
    by_cases h1 : j < L.length
    · simp only [h1, if_true]
      exact hRd i j k hij h1 hk
    · simp only [h1, if_false]
      intro e
      have := (hRr i hi).lt k hk
      have := hr.lt k e
      omega

end Go.Proofs.YtohjfcfcopbmoaaGreatDoor

/- Walks: the model's list of edges. -/
namespace Go.Proofs.YtohjfcfcopbmoaaGreatDoor
open Go.RowKit

/-- The edges from u to the first k of its neighbours. -/
def edgesRow (u : Nat) (row : List Int) : Nat → List (List Int)
  | 0 => []
  | k + 1 => edgesRow u row k ++ if (u : Int) < nth row k then [[(u : Int), nth row k]] else []
/-- The edges of the first u vertices. -/
def edgesTo (L : List (List Int)) : Nat → List (List Int)
  | 0 => []
  | u + 1 => edgesTo L u ++ edgesRow u (nthR L u) (nthR L u).length

theorem edgesRow_len (u : Nat) (row : List Int) (k : Nat) : (edgesRow u row k).length ≤ k := by
  induction k with
  | zero => simp [edgesRow]
  | succ k ih => simp only [edgesRow, List.length_append]; split <;> simp <;> omega
theorem edgesTo_len (L : List (List Int)) (h : ∀ u, u < L.length → (nthR L u).length ≤ 16) (u : Nat) (hu : u ≤ L.length) : (edgesTo L u).length ≤ 16 * u := by
  induction u with
  | zero => simp [edgesTo]
  | succ u ih =>
    have := edgesRow_len u (nthR L u) (nthR L u).length
    have := h u (by omega)
    have := ih (by omega)
    simp only [edgesTo, List.length_append]
    omega

theorem own_two {T : TypeId} {w : World} {x y : Int} (hx : I64 x) (hy : I64 y) : OwnRow T (w.alloc (.cells #[.int .i64 x, .int .i64 y] T)) w.heap.size (.slice (some ⟨w.heap.size, 0, none⟩) 2 2) [x, y] := by
  refine ⟨by intro z hz; simp at hz; rcases hz with rfl | rfl; exact hx; exact hy, by unfold maxLen; simp, Or.inr ⟨w.heap.size, 2, #[.int .i64 x, .int .i64 y], rfl, Nat.le_refl _, heap_alloc_new _ _, by simp, by unfold maxLen; omega, rfl, fun i hi => ?_⟩⟩
  have hi' : i < 2 := by simpa using hi
  have : i = 0 ∨ i = 1 := by omega
  rcases this with rfl | rfl <;> rfl
theorem own_none {T T1 : TypeId} (w : World) (B : Nat) (hB : B ≤ w.heap.size) : OwnGrid T T1 (w.alloc (.cells #[] T1)) B (.slice (some ⟨w.heap.size, 0, none⟩) 0 0) [] :=
  ⟨fun _ => undef, Nat.zero_le _, Or.inr ⟨w.heap.size, 0, #[], rfl, hB, heap_alloc_new _ _, Nat.le_refl _, Nat.zero_le _, rfl, fun i hi => absurd hi (by simp)⟩, fun i hi => absurd hi (by simp), fun i j k _ hj => absurd hj (by simp)⟩

set_option maxHeartbeats 1600000 in
theorem l1Edges_any (v : Value) (L : List (List Int)) (w : World) (h : GridAt w v L) (hG : GraphP L) :
    Calls Tryz.prog 81 #[.agg #[v]] w (GaveGrid w (edgesTo L L.length)) := by
  have hz := hG.1
  have hrl : ∀ u, u < L.length → (nthR L u).length ≤ 16 := fun u hu => by have := (hG.2.1 u hu).1.len (by omega); omega
  have HG := Lib.hid hG
  have HRL := Lib.hid hrl
  clear hG hrl
  obtain ⟨b, o, c, A, C, rfl, l1, l2, hc⟩ := h.pos (by omega)
  obtain ⟨W1, hW1⟩ : ∃ W1, W1 = w.alloc (.cells #[.slice (some ⟨b, o, none⟩) L.length c] 26) := ⟨_, rfl⟩
  have hs1 : W1.heap.size = w.heap.size + 1 := by rw [hW1]; simp
  have ha : Below w.heap.size w W1 := by rw [hW1]; exact (Below.refl _ _).alloc (Nat.le_refl _) _
  have kb : W1.cell? ⟨w.heap.size, 0, none⟩ = some (.slice (some ⟨b, o, none⟩) L.length c) := by rw [hW1]; go_simp
  have HC : Hid (∀ i, i < L.length → W1.cell? ⟨b, o + i, none⟩ = some (.slice (A i) (nthR L i).length (C i)) ∧ RowAt W1 (.slice (A i) (nthR L i).length (C i)) (nthR L i)) := fun i hi => ⟨cell_keep ha (hc i hi).1, (hc i hi).2.keep ha⟩
  have HGr := Lib.hid (h.keep ha)
  have KB := Lib.hid kb
  have HA := Lib.hid ha
  have HS1 := Lib.hid hs1
  have HW1 := Lib.hid hW1
  clear hc ha hs1 kb hW1 h
  obtain ⟨i0, hi, hz0, hz1, hz2⟩ := info_parts Tryz.infoR
  go_enter Tryz.func81, Tryz.ntmps81
  go_wp2
  rw [← HW1.out]
  go_loopw [3, 4] (fun v i wr => ∃ k : Nat, k ≤ L.length ∧ i = .int .i64 k ∧ OwnGrid 2 33 wr W1.heap.size v (edgesTo L k) ∧ Below W1.heap.size W1 wr) (fun _ i _ => L.length - (intOf i).toNat)
  case atStart =>
    refine ⟨0, Nat.zero_le _, rfl, ?_, (Below.refl _ _).alloc (Nat.le_refl _) _⟩
    have := own_none (T := 2) (T1 := 33) W1 W1.heap.size (Nat.le_refl _)
    rw [HS1.out] at this ⊢
    exact this
  case round =>
    obtain ⟨k, hk, rfl, hog, hb⟩ := hrel
    have hkb := cell_keep hb KB.out
    have HOG := Lib.hid hog
    have HB := Lib.hid hb
    have hg2 := Lib.hid (HGr.out.keep hb)
    clear hog
    go_wp2_with fail
    refine (l1Size_any _ _ _ hg2.out).mono ?_
    rintro e w2 ⟨rfl, hb2⟩
    have HB2 : Hid (Below W1.heap.size W1 w2) := HB.out.trans (hb2.mono HB.out.size)
    have HOG2 := Lib.hid (HOG.out.keep hb2)
    have hkb2 := cell_keep hb2 hkb
    clear hb2 hkb HOG HB hg2 hb
    by_cases hlt : k < L.length
    · have hck := cell_keep HB2.out (HC.out k hlt).1
      have hrow := (HC.out k hlt).2
      have hrl := HRL.out k hlt
      have hlen := edgesTo_len L HRL.out k hk
      have hset := Lib.hid (HG.out.2.1 k hlt).1
      by_cases hr0 : (nthR L k).length = 0
      · rw [hr0] at hck
        have HE : Hid (edgesTo L (k + 1) = edgesTo L k) := by show edgesTo L (k + 1) = _; simp [edgesTo, hr0, edgesRow]
        clear hr0 hrow
        go_wp2
        refine wp_loop_rounds 1 ?_
        rw [rounds_succ]
        go_wp2
        go_roundw
        case rel => exact ⟨k + 1, by omega, by go_num, by rw [HE.out]; exact HOG2.out, HB2.out⟩
        case measure => simp [intOf]; omega
      · obtain ⟨b1, o1, c1, e1, m1, m2, hcr⟩ := hrow.pos (by omega)
        simp only [Value.slice.injEq, true_and] at e1
        obtain ⟨eA, eC⟩ := e1
        rw [eA] at hck
        have hcrW := Lib.hid hcr
        have hckW : Hid (W1.cell? ⟨b, o + k, none⟩ = some (.slice (some ⟨b1, o1, none⟩) (nthR L k).length (C k))) := by have := (HC.out k hlt).1; rw [eA] at this; exact this
        have hi64 : Hid (∀ x ∈ nthR L k, I64 x) := hrow.1
        clear eA eC hr0 hrow hcr
        go_wp2
        go_loopw [3, 5] (fun v i w3 => ∃ q : Nat, q ≤ (nthR L k).length ∧ i = .int .i64 q ∧ OwnGrid 2 33 w3 W1.heap.size v (edgesTo L k ++ edgesRow k (nthR L k) q) ∧ Below W1.heap.size W1 w3) (fun _ i _ => (nthR L k).length - (intOf i).toNat)
        case atStart => exact ⟨0, Nat.zero_le _, rfl, by simpa [edgesRow] using HOG2.out, HB2.out⟩
        case round =>
          rename World => w3
          obtain ⟨q, hq, rfl, hog, hb⟩ := hrel
          have hck3 := cell_keep hb hckW.out
          have hkb3 := cell_keep hb KB.out
          have HB3 := Lib.hid hb
          have hz3 : W1.heap.size ≤ w3.heap.size := hb.size
          by_cases hql : q < (nthR L k).length
          · have hcq := cell_keep hb (hcrW.out q hql)
            have hst := hset.out q hql
            have hx0 := hst.1
            have hx1 := hst.2.1
            have hI := hi64.out _ (nth_mem hql)
            have hlr := edgesRow_len k (nthR L k) q
            have hes : edgesRow k (nthR L k) (q + 1) = edgesRow k (nthR L k) q ++ if (k : Int) < nth (nthR L k) q then [[(k : Int), nth (nthR L k) q]] else [] := rfl
            have HES := Lib.hid hes
            clear hes hst hb
            generalize hgx : nth (nthR L k) q = x at *
            have HGX := Lib.hid hgx
            clear hgx
            by_cases hlx : (k : Int) < x
            · obtain ⟨E, hE⟩ : ∃ E, E = edgesTo L k ++ edgesRow k (nthR L k) q := ⟨_, rfl⟩
              rw [← hE] at hog
              obtain ⟨R, hR, hRr, hRd⟩ := hog.owns
              have HR := Lib.hid hR
              have HRr := Lib.hid hRr
              have HRd := Lib.hid hRd
              have HES2 : Hid (edgesTo L k ++ edgesRow k (nthR L k) (q + 1) = E ++ [[(k : Int), x]]) := by
                show _ = _
                rw [HES.out, if_pos hlx, hE, List.append_assoc]
              have hll : E.length ≤ 16 * k + q := by rw [hE, List.length_append]; omega
              clear hog hR hRr hRd HES hE
              go_wp2_with (at_builtin; refine wpList_append_own _ rfl (.tmp 33) (.tmp 44) 24 rfl W1.heap.size 33 i0 (.slice none 0 0) 1 24 Tryz.underlying24 hi hz0 hz1 hz2 rfl (by decide) _ _ _ rfl ((HR.out.alloc _).alloc _) ⟨w3.heap.size + 1, 0, none⟩ 1 1 [.slice (some ⟨w3.heap.size, 0, none⟩) 2 2] rfl rfl ?c1 ?c2 ?c3 ?c4 ?c5 ?_)
              case c1 =>
                intro j u hj
                match j, hj with
                | 0, hj => simp at hj; subst hj; simp [Addr.add]
              case c2 => intro u hu; simp at hu; subst hu; rfl
              case c3 => unfold maxLen; omega
              case c4 => omega
              case c5 => simp; omega
              intro v' w4 hown' hgrow _
              have HO' := Lib.hid hown'
              have HGW := Lib.hid hgrow
              clear hown' hgrow
              go_wp2
              go_roundw
              case rel =>
                have hbw : Below w3.heap.size w3 ((w3.alloc (.cells #[.int .i64 (k : Int), .int .i64 x] 2)).alloc (.cells #[.slice (some ⟨w3.heap.size, 0, none⟩) 2 2] 33)) := ((Below.refl _ _).alloc (Nat.le_refl _) _).alloc (by simp) _
                refine ⟨q + 1, by omega, by go_num, ?_, ?_⟩
                · rw [HES2.out]
                  refine OwnGrid.snoc (w0 := w3) (w := (w3.alloc (.cells #[.int .i64 (k : Int), .int .i64 x] 2)).alloc (.cells #[.slice (some ⟨w3.heap.size, 0, none⟩) 2 2] 33)) (rv := .slice (some ⟨w3.heap.size, 0, none⟩) 2 2) (by decide) hbw hz3 ?_ rfl (by unfold maxLen; omega) R HR.out HRr.out HRd.out HO'.out HGW.out
                  exact (own_two (by unfold I64; omega) hI).keep ((Below.refl _ _).alloc (Nat.le_refl _) _)
                · refine (HB3.out.trans (hbw.mono hz3)).grown HGW.out (by simp; omega) (fun j hj => ?_)
                  exact (HR.out.lt j hj).1
              case measure => simp [intOf]; omega
            · have HES2 : Hid (edgesTo L k ++ edgesRow k (nthR L k) (q + 1) = edgesTo L k ++ edgesRow k (nthR L k) q) := by
                show _ = _
                rw [HES.out, if_neg hlx, List.append_nil]
              have HOG3 := Lib.hid hog
              clear hog HES
              go_wp2
              go_roundw
              case rel => exact ⟨q + 1, by omega, by go_num, by rw [HES2.out]; exact HOG3.out, HB3.out⟩
              case measure => simp [intOf]; omega
          · obtain rfl : q = (nthR L k).length := by omega
            have HOG3 := Lib.hid hog
            clear hog hb
            go_wp2
            go_roundw
            case rel => exact ⟨k + 1, by omega, by go_num, HOG3.out, HB3.out⟩
            case measure => simp [intOf]; omega
    · obtain rfl : k = L.length := by omega
      obtain ⟨a3, c3, e3⟩ := HOG2.out.grid.slice
      have HF : Hid (GaveGrid w (edgesTo L L.length) (.returned (.slice a3 (edgesTo L L.length).length c3)) w2) := ⟨_, _, _, rfl, by rw [← e3]; exact HOG2.out.mono (by have := HS1.out; omega), HA.out.trans (HB2.out.mono (by have := HS1.out; omega))⟩
      have HO2 := Lib.hid e3
      subst e3
      clear HOG2
      go_wp2
      go_ret
      exact HF.out

end Go.Proofs.YtohjfcfcopbmoaaGreatDoor

/- Plain facts: two ways to list a graph's edges. -/
namespace Go.Proofs.YtohjfcfcopbmoaaGreatDoor
open Go.RowKit

theorem SetP.pairwise {xs : List Int} {n : Int} (h : SetP xs n) : xs.Pairwise (· < ·) := by
  rw [List.pairwise_iff_getElem]
  intro i j hi hj hij
  have key : ∀ j, j < xs.length → ∀ i, i < j → nth xs i < nth xs j := by
    intro j
    induction j with
    | zero => intro _ i hi; omega
    | succ j ih =>
      intro hj i hi
      have h1 := (h (j + 1) hj).2.2 (by omega)
      simp at h1
      by_cases e : i = j
      · subst e; exact h1
      · have := ih (by omega) i (by omega); omega
  have := key j hj i hij
  rwa [nth_eq hi, nth_eq hj] at this
theorem SetP.bounds {xs : List Int} {n : Int} (h : SetP xs n) : ∀ x ∈ xs, 0 ≤ x ∧ x ≤ n - 1 := by
  intro x hx
  obtain ⟨i, hi, rfl⟩ := List.mem_iff_getElem.1 hx
  have := h i hi
  rw [← nth_eq hi]
  exact ⟨this.1, this.2.1⟩
theorem SetP.mk {xs : List Int} {n : Int} (hp : xs.Pairwise (· < ·)) (hb : ∀ x ∈ xs, 0 ≤ x ∧ x ≤ n - 1) : SetP xs n := by
  intro i hi
  have h1 := hb _ (nth_mem hi)
  refine ⟨h1.1, h1.2, fun h0 => ?_⟩
  have := List.pairwise_iff_getElem.1 hp (i - 1) i (by omega) hi (by omega)
  rw [nth_eq hi, nth_eq (by omega : i - 1 < xs.length)]
  exact this
theorem hasB_mem (xs : List Int) (x : Int) : hasB xs x = true ↔ x ∈ xs := by
  rw [hasB_iff]
  constructor
  · rintro ⟨i, hi, rfl⟩; exact nth_mem hi
  · intro h
    obtain ⟨i, hi, rfl⟩ := List.mem_iff_getElem.1 h
    exact ⟨i, hi, nth_eq hi⟩

theorem take_snoc {xs : List Int} {k : Nat} (h : k < xs.length) : xs.take (k + 1) = xs.take k ++ [nth xs k] := by
  rw [List.take_succ_eq_append_getElem h, nth_eq h]

/-- The greater neighbours among the first k. -/
def gts (u : Nat) (row : List Int) (k : Nat) : List Int := (row.take k).filter (fun x => decide ((u : Int) < x))
theorem edgesRow_gts (u : Nat) (row : List Int) (k : Nat) (hk : k ≤ row.length) : edgesRow u row k = (gts u row k).map (fun x => [(u : Int), x]) := by
  induction k with
  | zero => simp [edgesRow, gts]
  | succ k ih =>
    have e : gts u row (k + 1) = gts u row k ++ if (u : Int) < nth row k then [nth row k] else [] := by
      unfold gts
      rw [take_snoc (by omega), List.filter_append]
      congr 1
      by_cases h : (u : Int) < nth row k <;> simp [h]
    rw [edgesRow, ih (by omega), e, List.map_append]
    congr 1
    split <;> simp

/-- The edges from u to u + 1, .., u + m, as the program finds them. -/
def impRow (M u : Nat) : Nat → List (List Int)
  | 0 => []
  | m + 1 => impRow M u m ++ if hasM M ((u + 1 + m : Nat) : Int) = true then [[(u : Int), ((u + 1 + m : Nat) : Int)]] else []
def ups (M u m : Nat) : List Int := ((List.range m).map (fun i : Nat => ((u + 1 + i : Nat) : Int))).filter (fun x => hasM M x)
theorem impRow_ups (M u m : Nat) : impRow M u m = (ups M u m).map (fun x => [(u : Int), x]) := by
  induction m with
  | zero => simp [impRow, ups]
  | succ m ih =>
    have e : ups M u (m + 1) = ups M u m ++ if hasM M ((u + 1 + m : Nat) : Int) = true then [((u + 1 + m : Nat) : Int)] else [] := by
      unfold ups
      rw [List.range_succ, List.map_append, List.filter_append]
      congr 1
      by_cases h : hasM M ((u + 1 + m : Nat) : Int) = true
      · rw [if_pos h]; exact List.filter_cons_of_pos h
      · rw [if_neg h]; exact List.filter_cons_of_neg h
    rw [impRow, ih, e, List.map_append]
    congr 1
    split <;> simp

theorem impRow_eq {L : List (List Int)} (hG : GraphP L) {u : Nat} (hu : u < L.length) : impRow (rowM L u) u (L.length - (u + 1)) = edgesRow u (nthR L u) (nthR L u).length := by
  have hs := (hG.2.1 u hu).1
  have hz := hG.1
  rw [edgesRow_gts u _ _ (Nat.le_refl _), impRow_ups]
  congr 1
  have hsP : ∀ v, v < L.length → SetP (nthR L v) L.length := fun v hv => (hG.2.1 v hv).1
  refine set_ext (n := L.length) hz.2 ?_ ?_ ?_
  · refine SetP.mk ?_ ?_
    · unfold ups
      refine List.Pairwise.filter _ ?_
      rw [List.pairwise_map]
      refine List.Pairwise.imp ?_ List.pairwise_lt_range
      intro a b hab
      omega
    · intro x hx
      unfold ups at hx
      simp only [List.mem_filter, List.mem_map, List.mem_range] at hx
      obtain ⟨⟨i, hi, rfl⟩, _⟩ := hx
      omega
  · refine SetP.mk ?_ ?_
    · unfold gts
      refine List.Pairwise.filter _ ?_
      rw [List.take_length]
      exact hs.pairwise
    · intro x hx
      unfold gts at hx
      rw [List.take_length, List.mem_filter] at hx
      exact hs.bounds x hx.1
  · intro x hx
    rw [Bool.eq_iff_iff, hasB_mem, hasB_mem]
    unfold ups gts
    rw [List.take_length, List.mem_filter, List.mem_filter]
    rw [rowM_has hsP hu hx, hasB_mem]
    simp only [List.mem_map, List.mem_range, decide_eq_true_iff]
    constructor
    · rintro ⟨⟨i, hi, e⟩, h2⟩
      exact ⟨h2, by omega⟩
    · rintro ⟨h2, h3⟩
      have := hs.bounds _ h2
      exact ⟨⟨x - (u + 1), by omega, by omega⟩, h2⟩

/-- What EdgesOf answers. -/
def edgesL (L : List (List Int)) : List (List Int) := if GraphP L then edgesTo L L.length else []

end Go.Proofs.YtohjfcfcopbmoaaGreatDoor
