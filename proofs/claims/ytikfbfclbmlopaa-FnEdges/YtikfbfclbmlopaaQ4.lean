/- The texts D1, F3, C6, EqArr, C7, D4, Mark, F4, joined. -/
import Derived.WalkKit
import Derived.Laws.StructEq
import Derived.Test.YtikfbfclbmlopaaQ3

/- Walks: the model's list of edges. -/
namespace Go.Proofs.Ytikfbfclbmlopaa
open Go.RowKit

/-- The edges from u to the first k of its neighbours. -/
def edgesRow (u : Nat) (row : List Int) : Nat → List (List Int)
  | 0 => []
  | k + 1 => edgesRow u row k ++ if (u : Int) < nth row k then [[(u : Int), nth row k]] else []
/-- The edges of the first u vertices. -/
def edgesTo (L : List (List Int)) : Nat → List (List Int)
  | 0 => []
  | u + 1 => edgesTo L u ++ edgesRow u (nthR L u) (nthR L u).length

theorem edgesRow_len (u : Nat) (row : List Int) (k : Nat) : (edgesRow u row k).length ≤ k := by
  induction k with
  | zero => simp [edgesRow]
  | succ k ih => simp only [edgesRow, List.length_append]; split <;> simp <;> omega
theorem edgesTo_len (L : List (List Int)) (h : ∀ u, u < L.length → (nthR L u).length ≤ 16) (u : Nat) (hu : u ≤ L.length) : (edgesTo L u).length ≤ 16 * u := by
  induction u with
  | zero => simp [edgesTo]
  | succ u ih =>
    have := edgesRow_len u (nthR L u) (nthR L u).length
    have := h u (by omega)
    have := ih (by omega)
    simp only [edgesTo, List.length_append]
    omega

theorem own_two {T : TypeId} {w : World} {x y : Int} (hx : I64 x) (hy : I64 y) : OwnRow T (w.alloc (.cells #[.int .i64 x, .int .i64 y] T)) w.heap.size (.slice (some ⟨w.heap.size, 0, none⟩) 2 2) [x, y] := by
  refine ⟨by intro z hz; simp at hz; rcases hz with rfl | rfl; exact hx; exact hy, by unfold maxLen; simp, Or.inr ⟨w.heap.size, 2, #[.int .i64 x, .int .i64 y], rfl, Nat.le_refl _, heap_alloc_new _ _, by simp, by unfold maxLen; omega, rfl, fun i hi => ?_⟩⟩
  have hi' : i < 2 := by simpa using hi
  have : i = 0 ∨ i = 1 := by omega
  rcases this with rfl | rfl <;> rfl
theorem own_none {T T1 : TypeId} (w : World) (B : Nat) (hB : B ≤ w.heap.size) : OwnGrid T T1 (w.alloc (.cells #[] T1)) B (.slice (some ⟨w.heap.size, 0, none⟩) 0 0) [] :=
  ⟨fun _ => undef, Nat.zero_le _, Or.inr ⟨w.heap.size, 0, #[], rfl, hB, heap_alloc_new _ _, Nat.le_refl _, Nat.zero_le _, rfl, fun i hi => absurd hi (by simp)⟩, fun i hi => absurd hi (by simp), fun i j k _ hj => absurd hj (by simp)⟩

set_option maxHeartbeats 1600000 in
theorem l1Edges_any (v : Value) (L : List (List Int)) (w : World) (h : GridAt w v L) (hG : GraphP L) :
    Calls Try.prog 78 #[.agg #[v]] w (GaveGrid w (edgesTo L L.length)) := by
  have hz := hG.1
  have hrl : ∀ u, u < L.length → (nthR L u).length ≤ 16 := fun u hu => by have := (hG.2.1 u hu).1.len (by omega); omega
  have HG := Lib.hid hG
  have HRL := Lib.hid hrl
  clear hG hrl
  obtain ⟨b, o, c, A, C, rfl, l1, l2, hc⟩ := h.pos (by omega)
  obtain ⟨W1, hW1⟩ : ∃ W1, W1 = w.alloc (.cells #[.slice (some ⟨b, o, none⟩) L.length c] 26) := ⟨_, rfl⟩
  have hs1 : W1.heap.size = w.heap.size + 1 := by rw [hW1]; simp
  have ha : Below w.heap.size w W1 := by rw [hW1]; exact (Below.refl _ _).alloc (Nat.le_refl _) _
  have kb : W1.cell? ⟨w.heap.size, 0, none⟩ = some (.slice (some ⟨b, o, none⟩) L.length c) := by rw [hW1]; go_simp
  have HC : Hid (∀ i, i < L.length → W1.cell? ⟨b, o + i, none⟩ = some (.slice (A i) (nthR L i).length (C i)) ∧ RowAt W1 (.slice (A i) (nthR L i).length (C i)) (nthR L i)) := fun i hi => ⟨cell_keep ha (hc i hi).1, (hc i hi).2.keep ha⟩
  have HGr := Lib.hid (h.keep ha)
  have KB := Lib.hid kb
  have HA := Lib.hid ha
  have HS1 := Lib.hid hs1
  have HW1 := Lib.hid hW1
  clear hc ha hs1 kb hW1 h
  obtain ⟨i0, hi, hz0, hz1, hz2⟩ := info_parts Try.infoR
  go_enter Try.func78, Try.ntmps78
  go_wp2
  rw [← HW1.out]
  go_loopw [3, 4] (fun v i wr => ∃ k : Nat, k ≤ L.length ∧ i = .int .i64 k ∧ OwnGrid 2 34 wr W1.heap.size v (edgesTo L k) ∧ Below W1.heap.size W1 wr) (fun _ i _ => L.length - (intOf i).toNat)
  case atStart =>
    refine ⟨0, Nat.zero_le _, rfl, ?_, (Below.refl _ _).alloc (Nat.le_refl _) _⟩
    have := own_none (T := 2) (T1 := 34) W1 W1.heap.size (Nat.le_refl _)
    rw [HS1.out] at this ⊢
    exact this
  case round =>
    obtain ⟨k, hk, rfl, hog, hb⟩ := hrel
    have hkb := cell_keep hb KB.out
    have HOG := Lib.hid hog
    have HB := Lib.hid hb
    have hg2 := Lib.hid (HGr.out.keep hb)
    clear hog
    go_wp2_with fail
    refine (l1Size_any _ _ _ hg2.out).mono ?_
    rintro e w2 ⟨rfl, hb2⟩
    have HB2 : Hid (Below W1.heap.size W1 w2) := HB.out.trans (hb2.mono HB.out.size)
    have HOG2 := Lib.hid (HOG.out.keep hb2)
    have hkb2 := cell_keep hb2 hkb
    clear hb2 hkb HOG HB hg2 hb
    by_cases hlt : k < L.length
    · have hck := cell_keep HB2.out (HC.out k hlt).1
      have hrow := (HC.out k hlt).2
      have hrl := HRL.out k hlt
      have hlen := edgesTo_len L HRL.out k hk
      have hset := Lib.hid (HG.out.2.1 k hlt).1
      by_cases hr0 : (nthR L k).length = 0
      · rw [hr0] at hck
        have HE : Hid (edgesTo L (k + 1) = edgesTo L k) := by show edgesTo L (k + 1) = _; simp [edgesTo, hr0, edgesRow]
        clear hr0 hrow
        go_wp2
        refine wp_loop_rounds 1 ?_
        rw [rounds_succ]
        go_wp2
        go_roundw
        case rel => exact ⟨k + 1, by omega, by go_num, by rw [HE.out]; exact HOG2.out, HB2.out⟩
        case measure => simp [intOf]; omega
      · obtain ⟨b1, o1, c1, e1, m1, m2, hcr⟩ := hrow.pos (by omega)
        simp only [Value.slice.injEq, true_and] at e1
        obtain ⟨eA, eC⟩ := e1
        rw [eA] at hck
        have hcrW := Lib.hid hcr
        have hckW : Hid (W1.cell? ⟨b, o + k, none⟩ = some (.slice (some ⟨b1, o1, none⟩) (nthR L k).length (C k))) := by have := (HC.out k hlt).1; rw [eA] at this; exact this
        have hi64 : Hid (∀ x ∈ nthR L k, I64 x) := hrow.1
        clear eA eC hr0 hrow hcr
        go_wp2
        go_loopw [3, 5] (fun v i w3 => ∃ q : Nat, q ≤ (nthR L k).length ∧ i = .int .i64 q ∧ OwnGrid 2 34 w3 W1.heap.size v (edgesTo L k ++ edgesRow k (nthR L k) q) ∧ Below W1.heap.size W1 w3) (fun _ i _ => (nthR L k).length - (intOf i).toNat)
        case atStart => exact ⟨0, Nat.zero_le _, rfl, by simpa [edgesRow] using HOG2.out, HB2.out⟩
        case round =>
          rename World => w3
          obtain ⟨q, hq, rfl, hog, hb⟩ := hrel
          have hck3 := cell_keep hb hckW.out
          have hkb3 := cell_keep hb KB.out
          have HB3 := Lib.hid hb
          have hz3 : W1.heap.size ≤ w3.heap.size := hb.size
          by_cases hql : q < (nthR L k).length
          · have hcq := cell_keep hb (hcrW.out q hql)
            have hst := hset.out q hql
            have hx0 := hst.1
            have hx1 := hst.2.1
            have hI := hi64.out _ (nth_mem hql)
            have hlr := edgesRow_len k (nthR L k) q
            have hes : edgesRow k (nthR L k) (q + 1) = edgesRow k (nthR L k) q ++ if (k : Int) < nth (nthR L k) q then [[(k : Int), nth (nthR L k) q]] else [] := rfl
            have HES := Lib.hid hes
            clear hes hst hb
            generalize hgx : nth (nthR L k) q = x at *
            have HGX := Lib.hid hgx
            clear hgx
            by_cases hlx : (k : Int) < x
            · obtain ⟨E, hE⟩ : ∃ E, E = edgesTo L k ++ edgesRow k (nthR L k) q := ⟨_, rfl⟩
              rw [← hE] at hog
              obtain ⟨R, hR, hRr, hRd⟩ := hog.owns
              have HR := Lib.hid hR
              have HRr := Lib.hid hRr
              have HRd := Lib.hid hRd
              have HES2 : Hid (edgesTo L k ++ edgesRow k (nthR L k) (q + 1) = E ++ [[(k : Int), x]]) := by
                show _ = _
                rw [HES.out, if_pos hlx, hE, List.append_assoc]
              have hll : E.length ≤ 16 * k + q := by rw [hE, List.length_append]; omega
              clear hog hR hRr hRd HES hE
              go_wp2_with (at_builtin; refine wpList_append_own _ rfl (.tmp 33) (.tmp 44) 24 rfl W1.heap.size 34 i0 (.slice none 0 0) 1 24 Try.underlying24 hi hz0 hz1 hz2 rfl (by decide) _ _ _ rfl ((HR.out.alloc _).alloc _) ⟨w3.heap.size + 1, 0, none⟩ 1 1 [.slice (some ⟨w3.heap.size, 0, none⟩) 2 2] rfl rfl ?c1 ?c2 ?c3 ?c4 ?c5 ?_)
              case c1 =>
                intro j u hj
                match j, hj with
                | 0, hj => simp at hj; subst hj; simp [Addr.add]
              case c2 => intro u hu; simp at hu; subst hu; rfl
              case c3 => unfold maxLen; omega
              case c4 => omega
              case c5 => simp; omega
              intro v' w4 hown' hgrow _
              have HO' := Lib.hid hown'
              have HGW := Lib.hid hgrow
              clear hown' hgrow
              go_wp2
              go_roundw
              case rel =>
                have hbw : Below w3.heap.size w3 ((w3.alloc (.cells #[.int .i64 (k : Int), .int .i64 x] 2)).alloc (.cells #[.slice (some ⟨w3.heap.size, 0, none⟩) 2 2] 34)) := ((Below.refl _ _).alloc (Nat.le_refl _) _).alloc (by simp) _
                refine ⟨q + 1, by omega, by go_num, ?_, ?_⟩
                · rw [HES2.out]
                  refine OwnGrid.snoc (w0 := w3) (w := (w3.alloc (.cells #[.int .i64 (k : Int), .int .i64 x] 2)).alloc (.cells #[.slice (some ⟨w3.heap.size, 0, none⟩) 2 2] 34)) (rv := .slice (some ⟨w3.heap.size, 0, none⟩) 2 2) (by decide) hbw hz3 ?_ rfl (by unfold maxLen; omega) R HR.out HRr.out HRd.out HO'.out HGW.out
                  exact (own_two (by unfold I64; omega) hI).keep ((Below.refl _ _).alloc (Nat.le_refl _) _)
                · refine (HB3.out.trans (hbw.mono hz3)).grown HGW.out (by simp; omega) (fun j hj => ?_)
                  exact (HR.out.lt j hj).1
              case measure => simp [intOf]; omega
            · have HES2 : Hid (edgesTo L k ++ edgesRow k (nthR L k) (q + 1) = edgesTo L k ++ edgesRow k (nthR L k) q) := by
                show _ = _
                rw [HES.out, if_neg hlx, List.append_nil]
              have HOG3 := Lib.hid hog
              clear hog HES
              go_wp2
              go_roundw
              case rel => exact ⟨q + 1, by omega, by go_num, by rw [HES2.out]; exact HOG3.out, HB3.out⟩
              case measure => simp [intOf]; omega
          · obtain rfl : q = (nthR L k).length := by omega
            have HOG3 := Lib.hid hog
            clear hog hb
            go_wp2
            go_roundw
            case rel => exact ⟨k + 1, by omega, by go_num, HOG3.out, HB3.out⟩
            case measure => simp [intOf]; omega
    · obtain rfl : k = L.length := by omega
      obtain ⟨a3, c3, e3⟩ := HOG2.out.grid.slice
      have HF : Hid (GaveGrid w (edgesTo L L.length) (.returned (.slice a3 (edgesTo L L.length).length c3)) w2) := ⟨_, _, _, rfl, by rw [← e3]; exact HOG2.out.mono (by have := HS1.out; omega), HA.out.trans (HB2.out.mono (by have := HS1.out; omega))⟩
      have HO2 := Lib.hid e3
      subst e3
      clear HOG2
      go_wp2
      go_ret
      exact HF.out

end Go.Proofs.Ytikfbfclbmlopaa

/- Walks: the model's graph without edges. -/
namespace Go.Proofs.Ytikfbfclbmlopaa
open Go.RowKit

theorem own_empty {T : TypeId} (w : World) : OwnRow T (w.alloc (.cells #[] T)) w.heap.size (.slice (some ⟨w.heap.size, 0, none⟩) 0 0) [] :=
  ⟨by simp, by simp, Or.inr ⟨w.heap.size, 0, #[], rfl, Nat.le_refl _, heap_alloc_new _ _, Nat.le_refl _, Nat.zero_le _, rfl, fun i hi => absurd hi (by simp)⟩⟩
theorem own_nil {T T1 : TypeId} (w : World) (B : Nat) : OwnGrid T T1 w B (.slice none 0 0) [] :=
  ⟨fun _ => undef, Nat.zero_le _, Or.inl ⟨rfl, rfl⟩, fun i hi => absurd hi (by simp), fun i j k _ hj => absurd hj (by simp)⟩

/-- A box: a block of one cell that is not frozen. -/
def BoxAt (w : World) (b : Nat) (v : Value) : Prop := w.cell? ⟨b, 0, none⟩ = some v ∧ w.frozen? ⟨b, 0, none⟩ = false
theorem BoxAt.keepB {w w' : World} {B b : Nat} {v : Value} (h : BoxAt w b v) (hb : Below B w w') (hlt : b < B) : BoxAt w' b v := ⟨by rw [hb.cell hlt]; exact h.1, by rw [hb.frozen hlt]; exact h.2⟩
theorem BoxAt.lt {w : World} {b : Nat} {v : Value} (h : BoxAt w b v) : b < w.heap.size := block_lt_of_cell h.1
theorem BoxAt.keep {w w' : World} {b : Nat} {v : Value} (h : BoxAt w b v) (hb : Below w.heap.size w w') : BoxAt w' b v := h.keepB hb h.lt
theorem frozen_set (w : World) (a : Addr) (u : Value) (b : Addr) : (w.setCell a u).frozen? b = w.frozen? b := by
  simp only [World.frozen?, World.setCell, Array.getElem?_modify]
  by_cases h : a.block = b.block
  · rw [if_pos h]
    cases w.heap[b.block]? with
    | none => rfl
    | some o => cases o <;> rfl
  · rw [if_neg h]
theorem BoxAt.set {w : World} {b : Nat} {v : Value} (h : BoxAt w b v) (u : Value) : BoxAt (w.setCell ⟨b, 0, none⟩ u) b u := ⟨cell_set_same u h.1, by rw [frozen_set]; exact h.2⟩
theorem BoxAt.setOther {w : World} {b : Nat} {v : Value} (h : BoxAt w b v) {a : Addr} (ha : a.block ≠ b) (u : Value) : BoxAt (w.setCell a u) b v :=
  ⟨by rw [cell_set_other u (fun e => ha (by rw [e]))]; exact h.1, by rw [frozen_set]; exact h.2⟩
theorem BoxAt.new (w : World) (v : Value) (t : TypeId) : BoxAt (w.alloc (.cells #[v] t)) w.heap.size v := ⟨by go_simp, by go_simp⟩

set_option maxHeartbeats 1600000 in
theorem l1Empty_any (n : Nat) (w : World) (hn : n ≤ 17) : Calls Try.prog 122 #[.int .i64 (n : Int)] w (GaveGraph w (List.replicate n [])) := by
  obtain ⟨i0, hi, hz0, hz1, hz2⟩ := info_parts Try.infoR
  have b1 : BoxAt ((w.alloc (.cells #[.slice none 0 0] 26)).alloc (.cells #[.slice none 0 0] 26)) w.heap.size (.slice none 0 0) := ⟨by go_simp, by go_simp⟩
  have b2 : BoxAt ((w.alloc (.cells #[.slice none 0 0] 26)).alloc (.cells #[.slice none 0 0] 26)) (w.heap.size + 1) (.slice none 0 0) := ⟨by go_simp, by go_simp⟩
  have B1 := Lib.hid b1
  have B2 := Lib.hid b2
  clear b1 b2
  go_enter Try.func122, Try.ntmps122
  go_wp2
  go_loopw [4] (fun i wr => ∃ k : Nat, k ≤ n ∧ i = .int .i64 k ∧ BoxAt wr w.heap.size (.slice none 0 0) ∧ (∃ a c, BoxAt wr (w.heap.size + 1) (.slice a k c) ∧ OwnGrid 2 34 wr (w.heap.size + 1 + 1) (.slice a k c) (List.replicate k [])) ∧ w.heap.size + 1 + 1 ≤ wr.heap.size ∧ Below w.heap.size w wr) (fun i _ => n - (intOf i).toNat)
  case atStart => exact ⟨0, Nat.zero_le _, rfl, B1.out, ⟨none, 0, B2.out, own_nil _ _⟩, by simp, ((Below.refl _ _).alloc (Nat.le_refl _) _).alloc (by simp) _⟩
  case round =>
    obtain ⟨k, hk, rfl, hb1, ⟨a, c, hb2, hog⟩, hzs, hbel⟩ := hrel
    have hbc := hb2.1
    have hbf := hb2.2
    have HB1 := Lib.hid hb1
    have HB2 := Lib.hid hb2
    have HOG := Lib.hid hog
    have HBL := Lib.hid hbel
    by_cases hlt : k < n
    · obtain ⟨R, hR, hRr, hRd⟩ := hog.owns
      rw [List.length_replicate] at hR
      have HR := Lib.hid hR
      have HRr := Lib.hid hRr
      have HRd := Lib.hid hRd
      clear hR hRr hRd hog hb1 hb2 hbel
      have hw : Below wr.heap.size wr ((wr.alloc (.cells #[] 2)).alloc (.cells #[.slice (some ⟨wr.heap.size, 0, none⟩) 0 0] 34)) := ((Below.refl _ _).alloc (Nat.le_refl _) _).alloc (by simp) _
      have HW := Lib.hid hw
      clear hw
      go_wp2_with (at_builtin; refine wpList_append_own _ rfl (.tmp 12) (.tmp 14) 24 rfl (w.heap.size + 1 + 1) 34 i0 (.slice none 0 0) 1 24 Try.underlying24 hi hz0 hz1 hz2 rfl (by decide) _ _ _ rfl ((HR.out.alloc _).alloc _) ⟨wr.heap.size + 1, 0, none⟩ 1 1 [.slice (some ⟨wr.heap.size, 0, none⟩) 0 0] rfl rfl ?c1 ?c2 ?c3 ?c4 ?c5 ?_)
      case c1 =>
        intro j u hj
        match j, hj with
        | 0, hj => simp at hj; subst hj; simp [Addr.add]
      case c2 => intro u hu; simp at hu; subst hu; rfl
      case c3 => unfold maxLen; omega
      case c4 => omega
      case c5 => simp; omega
      intro v' w5 hown' hgrow _
      have hbw : Below (w.heap.size + 1 + 1) wr w5 := (HW.out.mono hzs).grown hgrow (by simp; omega) (fun j hj => (HR.out.lt j hj).1)
      have hog' : OwnGrid 2 34 w5 (w.heap.size + 1 + 1) v' (List.replicate k [] ++ [[]]) := by
        refine OwnGrid.snoc (w0 := wr) (w := (wr.alloc (.cells #[] 2)).alloc (.cells #[.slice (some ⟨wr.heap.size, 0, none⟩) 0 0] 34)) (rv := .slice (some ⟨wr.heap.size, 0, none⟩) 0 0) (n := k) (by decide) HW.out hzs ?_ (by simp) (by simp; unfold maxLen; omega) R (by simpa using HR.out) HRr.out HRd.out (by simpa using hown') hgrow
        exact (own_empty wr).keep ((Below.refl _ _).alloc (Nat.le_refl _) _)
      have e1 : List.replicate k ([] : List Int) ++ [[]] = List.replicate (k + 1) [] := by rw [List.replicate_succ']
      rw [e1] at hog'
      obtain ⟨a5, c5, e5⟩ := hog'.grid.slice
      rw [List.length_replicate] at e5
      subst e5
      have hb51 := HB1.out.keepB hbw (by omega)
      have hb52 := HB2.out.keepB hbw (by omega)
      have hbc5 := hb52.1
      have hbf5 := hb52.2
      have H51 := Lib.hid hb51
      have H52 := Lib.hid hb52
      have HBW := Lib.hid hbw
      have HOG5 := Lib.hid hog'
      clear hown' hgrow hbw hog' e1 hb51 hb52
      go_wp2
      go_roundw
      case rel =>
        refine ⟨k + 1, by omega, by go_num, H51.out.setOther (by simp) _, ⟨a5, c5, H52.out.set _, HOG5.out.setBelow (by simp) _⟩, by rw [size_setCell1]; exact Nat.le_trans hzs HBW.out.size, ((HBL.out.trans (HBW.out.mono (by omega))).setCell (by simp) _)⟩
      case measure => simp [intOf]; omega
    · obtain rfl : k = n := by omega
      have hrc := hb1.1
      have hrf := hb1.2
      clear hb1 hb2 hog hbel
      go_wp2
      have q0 : (wr.setCell ⟨w.heap.size, 0, none⟩ (.slice a k c)).cell? ⟨w.heap.size, 0, none⟩ = some (.slice a k c) := cell_set_same _ HB1.out.1
      refine bodyPost_ret (v := .agg #[.slice a k c]) (by simp [results, Try.results122, go_sem, q0]) rfl ⟨k, a, c, rfl, ?_, ?_⟩
      · exact (HOG.out.setBelow (by simp; omega) _).mono (by omega)
      · exact HBL.out.setCell (by simp) _

end Go.Proofs.Ytikfbfclbmlopaa

/- Walks: SameGraph. -/
namespace Go.Proofs.Ytikfbfclbmlopaa
open Go.RowKit

/-- What SameGraph answers. -/
def sameB (L M : List (List Int)) : Bool := decide (GraphP L) && decide (GraphP M) && decide (L = M)

end Go.Proofs.Ytikfbfclbmlopaa

/- Go's == on arrays of integers of one cell each, in the model's words. No statement of the program. -/
namespace Go.Proofs.Ytikfbfclbmlopaa
open Go.RowKit

section
variable {P : Program} (w : World)

theorem run_part_int {e : TypeId} {k : IntKind} (he : P.underlying e = some (.int k)) (cs : Array Value) (i : Nat) (v : Value) (h : cs[i]? = some v) : (part e cs i).run P w = .ok v w := by
  unfold part isAgg
  simp [Sem.run_bind, run_underlying he, h]

theorem run_equalIn_array {d len : Nat} {t e : TypeId} {k : IntKind} {i : TypeInfo} (ht : P.underlying t = some (.array len e)) (he : P.underlying e = some (.int k)) (hi : P.info? e = some i) (hs : i.size = 1) (xs ys : Array Value) (X Y : Nat → Int)
    (hx : ∀ j, j < len → xs[j]? = some (.int k (X j))) (hy : ∀ j, j < len → ys[j]? = some (.int k (Y j))) :
    (Op.equalIn (d + 2) t (.agg xs) (.agg ys)).run P w = .ok (decide (∀ j, j < len → X j = Y j)) w := by
  rw [Op.equalIn]
  simp only [Sem.run_bind, run_underlying ht, Result.andThen_ok]
  have hsz : (sizeOf e).run P w = .ok 1 w := by simp [sizeOf, typeInfo, hi, hs, Sem.run_bind]
  simp only [hsz, Result.andThen_ok, Nat.mul_one]
  rw [Std.Legacy.Range.forIn_eq_forIn_range']
  simp only [Std.Legacy.Range.size, Nat.sub_zero, Nat.add_sub_cancel, Nat.div_one]
  have key : ∀ (n s : Nat), s + n = len →
      ((forIn (List.range' s n) ((none, ()) : Option Bool × Unit) (fun j _ => do
          let a ← part e xs j
          let b ← part e ys j
          let r ← Op.equalIn (d + 1) e a b
          if (!r) = true then pure (ForInStep.done (some false, ())) else pure (ForInStep.yield (none, ()))) : Sem (Option Bool × Unit)).run P w) =
        .ok ⟨if (∀ j, j < len → s ≤ j → X j = Y j) then none else some false, ()⟩ w := by
    intro n
    induction n with
    | zero =>
      intro s hsn
      have : ∀ j, j < len → s ≤ j → X j = Y j := fun j h2 h1 => by omega
      rw [if_pos this]
      rfl
    | succ n ih =>
      intro s hsn
      rw [List.range'_succ, List.forIn_cons]
      simp only [Sem.run_bind, run_part_int w he xs s _ (hx s (by omega)), run_part_int w he ys s _ (hy s (by omega)), Result.andThen_ok, run_equalIn_int w d e k k _ _ he]
      by_cases hq : X s = Y s
      · have hb : (X s == Y s) = true := by simpa using hq
        simp only [hb, Bool.not_true, Bool.false_eq_true, if_false, Sem.run_pure, Result.andThen_ok]
        rw [ih (s + 1) (by omega)]
        have e2 : (∀ j, j < len → s + 1 ≤ j → X j = Y j) ↔ (∀ j, j < len → s ≤ j → X j = Y j) := by
          constructor
          · intro h j h2 h1
            by_cases e3 : j = s
            · subst e3; exact hq
            · exact h j h2 (by omega)
          · intro h j h2 h1; exact h j h2 (by omega)
        simp only [e2]
      · have hb : (X s == Y s) = false := by simpa using hq
        have hn : ¬ (∀ j, j < len → s ≤ j → X j = Y j) := fun h => hq (h s (by omega) (Nat.le_refl _))
        simp [hb, hn]
  have k0 := key len 0 (by omega)
  rw [k0]
  simp only [Result.andThen_ok]
  by_cases hq : ∀ j, j < len → X j = Y j
  · rw [if_pos (fun j h1 _ => hq j h1), decide_eq_true hq]
    rfl
  · rw [if_neg (fun h => hq (fun j h1 => h j h1 (Nat.zero_le _))), decide_eq_false hq]
    rfl

end
end Go.Proofs.Ytikfbfclbmlopaa

/- Walks: SameGraph, of the program. -/
namespace Go.Proofs.Ytikfbfclbmlopaa
open Go.RowKit

theorem Try.infoM : (Try.prog.info? 68).map (fun i => (i.zero, i.size, i.bytes)) = some (some (.int .u32 0), 1, 4) := by kernel_rfl
theorem Try.sizeArr : (Try.prog.info? 69).map (·.size) = some 16 := by kernel_rfl
theorem Try.stoodNet : Try.prog.stoodInHeld 71 = false := by kernel_rfl

theorem run_part_arr (w : World) (cs : Array Value) (i : Nat) : (part 69 cs i).run Try.prog w = .ok (.agg (cs.extract i (i + 16))) w := by
  have h := Try.sizeArr
  cases hq : Try.prog.info? 69 with
  | none => simp [hq] at h
  | some j =>
    have hs : j.size = 16 := by simpa [hq] using h
    unfold part isAgg
    simp [Sem.run_bind, run_underlying Try.underlying69, sizeOf, typeInfo, hq, hs]

/-- A strictly increasing list is known by its elements. -/
theorem set_ext {xs ys : List Int} {n : Nat} (hn : n ≤ 16) (hx : SetP xs n) (hy : SetP ys n) (h : ∀ u : Nat, u < 16 → hasB xs u = hasB ys u) : xs = ys := by
  have mono : ∀ {zs : List Int}, SetP zs n → ∀ j i, i < j → j < zs.length → nth zs i < nth zs j := by
    intro zs hz j
    induction j with
    | zero => intro i hi; omega
    | succ j ih =>
      intro i hi hj
      have h1 := (hz (j + 1) hj).2.2 (by omega)
      simp at h1
      by_cases e : i = j
      · subst e; exact h1
      · have := ih i (by omega) (by omega); omega
  have sub : ∀ {ps qs : List Int}, SetP ps n → (∀ u : Nat, u < 16 → hasB ps u = hasB qs u) → ∀ i, i < ps.length → ∃ j, j < qs.length ∧ nth qs j = nth ps i := by
    intro ps qs ha hab i hi
    have h1 := ha i hi
    obtain ⟨u, hu⟩ := Int.eq_ofNat_of_zero_le h1.1
    have h2 := hab u (by have := h1.2.1; omega)
    have h3 : hasB ps u = true := (hasB_iff _ _).2 ⟨i, hi, hu⟩
    rw [h3] at h2
    obtain ⟨j, hj, e⟩ := (hasB_iff _ _).1 h2.symm
    exact ⟨j, hj, by rw [e, hu]⟩
  have eqAt : ∀ i, i < xs.length → i < ys.length → nth xs i = nth ys i := by
    intro i
    induction i using Nat.strongRecOn with
    | _ i ih =>
      intro h1 h2
      obtain ⟨j, hj, e⟩ := sub hx h i h1
      obtain ⟨k, hk, e'⟩ := sub hy (fun u hu => (h u hu).symm) i h2
      rcases Nat.lt_trichotomy j i with hji | hji | hji
      · have e3 := ih j hji (by omega) hj
        have := mono hx i j hji h1
        omega
      · subst hji; exact e.symm
      · have h5 := mono hy j i hji hj
        rcases Nat.lt_trichotomy k i with hki | hki | hki
        · have e3 := ih k hki hk (by omega)
          have := mono hy i k hki h2
          omega
        · subst hki; exact e'
        · have := mono hx k i hki hk
          omega
  have lens : xs.length = ys.length := by
    rcases Nat.lt_trichotomy xs.length ys.length with hl | hl | hl
    · exfalso
      obtain ⟨k, hk, e⟩ := sub hy (fun u hu => (h u hu).symm) xs.length hl
      have e3 := eqAt k hk (by omega)
      have := mono hy xs.length k (by omega) hl
      omega
    · exact hl
    · exfalso
      obtain ⟨k, hk, e⟩ := sub hx h ys.length hl
      have e3 := eqAt k (by omega) hk
      have := mono hx ys.length k (by omega) hl
      omega
  exact nth_ext lens (fun i hi => eqAt i hi (by omega))

/-- Go's == on two nets. -/
def netEq (n n' : Nat) (M M' : Nat → Nat) : Bool := decide (n = n') && decide (∀ i : Nat, i < 16 → (M i : Int) = (M' i : Int))

set_option maxRecDepth 100000 in
theorem run_eql_net (n n' : Nat) (M M' : Nat → Nat) (w : World) : (binOp .eql 71 (.agg (netArr n M)) (.agg (netArr n' M'))).run Try.prog w = .ok (.bool (netEq n n' M M')) w := by
  have hu : Try.prog.underlying 71 = some (.struct (Try.prog.fieldsOf 71)) := by simp [Program.fieldsOf, Try.underlying71]
  obtain ⟨i0, hi, hz0, hz1, hz2⟩ := info_parts Try.infoM
  rw [run_eql_struct, run_equalIn_struct w 9999 71 _ _ hu Try.stoodNet]
  have p0 : ∀ (n : Nat) (M : Nat → Nat), (part 2 (netArr n M) 0).run Try.prog w = .ok (.int .i64 n) w := fun n M => run_part_int w Try.underlying2 _ _ _ (netArr_zero n M)
  have ex : ∀ (n : Nat) (M : Nat → Nat) (j : Nat), j < 16 → ((netArr n M).extract 1 (1 + 16))[j]? = some (.int .u32 (M j : Int)) := fun n M j hj => by
    rw [Array.getElem?_extract, if_pos (by rw [netArr_size]; omega), netArr_get n M j hj]
  have ha := run_equalIn_array (d := 9997) w Try.underlying69 Try.underlying68 hi hz1 ((netArr n M).extract 1 (1 + 16)) ((netArr n' M').extract 1 (1 + 16)) (fun i => (M i : Int)) (fun i => (M' i : Int)) (ex n M) (ex n' M')
  have h0 := run_equalIn_int w 9998 2 .i64 .i64 (n : Int) (n' : Int) Try.underlying2
  simp only [Nat.reduceAdd] at ha h0
  simp only [Program.fieldsOf, Try.underlying71, Op.eqFields, ne_eq, String.reduceEq, not_false_eq_true, if_true, Sem.run_bind, p0, Result.andThen_ok, h0]
  by_cases e0 : n = n'
  · subst e0
    by_cases e1 : ∀ i : Nat, i < 16 → (M i : Int) = (M' i : Int)
    · rw [decide_eq_true e1] at ha
      have hn : netEq n n M M' = true := by unfold netEq; rw [decide_eq_true e1]; simp
      rw [hn]
      simp [run_part_arr, ha]
    · rw [decide_eq_false e1] at ha
      have hn : netEq n n M M' = false := by unfold netEq; rw [decide_eq_false e1]; simp
      rw [hn]
      simp [run_part_arr, ha]
  · have b0 : ((n : Int) == (n' : Int)) = false := by simp; omega
    simp [b0, netEq, e0]

/-- Two valid graphs are equal just where their nets are. -/
theorem nets_same {L M : List (List Int)} (hL : GraphP L) (hM : GraphP M) : netEq L.length M.length (rowM L) (rowM M) = decide (L = M) := by
  unfold netEq
  by_cases hn : L.length = M.length
  · rw [decide_eq_true hn, Bool.true_and, Bool.eq_iff_iff, decide_eq_true_iff, decide_eq_true_iff]
    have sL : ∀ v, v < L.length → SetP (nthR L v) L.length := fun v hv => (hL.2.1 v hv).1
    have sM : ∀ v, v < M.length → SetP (nthR M v) M.length := fun v hv => (hM.2.1 v hv).1
    constructor
    · intro h
      apply nthR_ext hn
      intro v hv
      have h1 : rowM L v = rowM M v := by have := h v (by have := hL.1; omega); omega
      have key : ∀ u : Nat, u < 16 → hasB (nthR L v) u = hasB (nthR M v) u := fun u hu => by
        rw [← rowM_has sL hv hu, ← rowM_has sM (by omega) hu, h1]
      exact set_ext (n := L.length) (by have := hL.1; omega) (sL v hv) (by rw [hn]; exact sM v (by omega)) key
    · intro e i hi
      rw [e]
  · rw [decide_eq_false hn, Bool.false_and]
    symm
    rw [decide_eq_false_iff_not]
    intro e
    exact hn (by rw [e])

theorem cell_put {T : TypeId} {w w' : World} {o : Obj} {n : Nat} {M : Nat → Nat} (hp : NetPut T (w.alloc o) w' w.heap.size n M) {a : Addr} {v : Value} (h : w.cell? a = some v) : w'.cell? a = some v := cell_keep hp.since h

set_option maxHeartbeats 1600000 in
theorem implSameGraph_any (v v' : Value) (L M : List (List Int)) (w : World) (h : GridAt w v L) (h' : GridAt w v' M) :
    Calls Try.prog 27 #[.agg #[v], .agg #[v']] w fun e w' => e = .returned (.bool (sameB L M)) ∧ Below w.heap.size w w' := by
  obtain ⟨a0, c0, rfl⟩ := h.slice
  obtain ⟨a1, c1, rfl⟩ := h'.slice
  have ha : Below w.heap.size w ((w.alloc (.cells #[.slice a0 L.length c0] 26)).alloc (.cells #[.slice a1 M.length c1] 26)) := ((Below.refl _ _).alloc (Nat.le_refl _) _).alloc (by simp) _
  have R0 := Lib.hid (h.keep ha)
  have S0 := Lib.hid (h'.keep ha)
  have HA := Lib.hid ha
  clear ha h h'
  go_enter Try.func27, Try.ntmps27
  go_wp2_with fail
  refine (netOf_any _ _ _ R0.out).mono ?_
  rintro e w1 ⟨rfl, hb1⟩
  have kc1 : w1.cell? ⟨w.heap.size + 1, 0, none⟩ = some (.slice a1 M.length c1) := by rw [hb1.cell (by simp)]; go_simp
  have S1 := Lib.hid (S0.out.keep hb1)
  have HB1 : Hid (Below w.heap.size w w1) := HA.out.trans (hb1.mono (by simp; omega))
  have hz : w.heap.size ≤ w1.heap.size := HB1.out.size
  have hnb := netBlk_new w1 0 (fun _ => 0)
  clear hb1 HA R0 S0
  go_wp2_with (refine wpList_store_net rfl 71 (.tmp 5) (.tmp 12) rfl w1.heap.size (netN L) (netM L) rfl rfl Try.sizeNet 0 (fun _ => 0) hnb ?_; intro w3 hp; have kc3 := cell_put hp kc1; have HB3 : Hid (Below w.heap.size w w3) := (HB1.out.alloc hz _).trans (hp.below.mono hz); have N3 := Lib.hid hp.net; have S3 := Lib.hid (S1.out.keep hp.since); clear hp)
  refine (netOf_any _ _ _ S3.out).mono ?_
  rintro e w4 ⟨rfl, hb4⟩
  have N4 := Lib.hid (N3.out.keep hb4)
  have HB4 : Hid (Below w.heap.size w w4) := HB3.out.trans (hb4.mono HB3.out.size)
  have hz4 : w.heap.size ≤ w4.heap.size := HB4.out.size
  have hnb4 := netBlk_new w4 0 (fun _ => 0)
  clear hb4 kc1 kc3 HB1 HB3 S1 S3 N3 hnb hz
  by_cases hG : GraphP L
  · by_cases hM : GraphP M
    · have HE : Hid (sameB L M = netEq L.length M.length (rowM L) (rowM M)) := by show sameB L M = _; rw [nets_same hG hM]; simp [sameB, hG, hM]
      have N5 : Hid (NetBlk 71 w4 w1.heap.size L.length (rowM L)) := N4.out.congr (netN_yes hG) (fun i _ => netM_yes hG i)
      rw [decide_eq_true hG, decide_eq_true hM, netArr_yes hM]
      have heq := run_eql_net L.length M.length (rowM L) (rowM M)
      clear hG hM N4
      go_wp2_with (first | (refine wpList_store_net rfl 71 (.tmp 7) (.tmp 17) rfl w4.heap.size M.length (rowM M) rfl rfl Try.sizeNet 0 (fun _ => 0) hnb4 ?_; intro w6 hp; have HB6 : Hid (Below w.heap.size w w6) := (HB4.out.alloc hz4 _).trans (hp.below.mono hz4); have N6 := N5.out.keep hp.since; have N7 := hp.net; clear hp) | (refine wpList_load_net_g rfl 71 (.tmp 5) rfl w1.heap.size L.length (rowM L) rfl Try.sizeNet _ Try.underlying71 rfl N6 ?_) | (refine wpList_load_net_g rfl 71 (.tmp 7) rfl w4.heap.size M.length (rowM M) rfl Try.sizeNet _ Try.underlying71 rfl N7 ?_))
      go_ret
      exact ⟨ret_bool HE.out.symm, HB6.out⟩
    · have HE : Hid (sameB L M = false) := by show sameB L M = _; simp [sameB, hM]
      rw [decide_eq_true hG, decide_eq_false hM, netArr_no hM]
      clear hG hM N4
      go_wp2_with (refine wpList_store_net rfl 71 (.tmp 7) (.tmp 17) rfl w4.heap.size 0 (fun _ => 0) rfl rfl Try.sizeNet 0 (fun _ => 0) hnb4 ?_; intro w6 hp; have HB6 : Hid (Below w.heap.size w w6) := (HB4.out.alloc hz4 _).trans (hp.below.mono hz4); clear hp)
      go_ret
      exact ⟨ret_bool HE.out.symm, HB6.out⟩
  · have HE : Hid (sameB L M = false) := by show sameB L M = _; simp [sameB, hG]
    rw [decide_eq_false hG]
    clear hG N4
    go_wp2_with (refine wpList_store_net rfl 71 (.tmp 7) (.tmp 17) rfl w4.heap.size (netN M) (netM M) rfl rfl Try.sizeNet 0 (fun _ => 0) hnb4 ?_; intro w6 hp; have HB6 : Hid (Below w.heap.size w w6) := (HB4.out.alloc hz4 _).trans (hp.below.mono hz4); clear hp)
    go_ret
    exact ⟨ret_bool HE.out.symm, HB6.out⟩

end Go.Proofs.Ytikfbfclbmlopaa

/- Plain facts: two ways to list a graph's edges. -/
namespace Go.Proofs.Ytikfbfclbmlopaa
open Go.RowKit

theorem SetP.pairwise {xs : List Int} {n : Int} (h : SetP xs n) : xs.Pairwise (· < ·) := by
  rw [List.pairwise_iff_getElem]
  intro i j hi hj hij
  have key : ∀ j, j < xs.length → ∀ i, i < j → nth xs i < nth xs j := by
    intro j
    induction j with
    | zero => intro _ i hi; omega
    | succ j ih =>
      intro hj i hi
      have h1 := (h (j + 1) hj).2.2 (by omega)
      simp at h1
      by_cases e : i = j
      · subst e; exact h1
      · have := ih (by omega) i (by omega); omega
  have := key j hj i hij
  rwa [nth_eq hi, nth_eq hj] at this
theorem SetP.bounds {xs : List Int} {n : Int} (h : SetP xs n) : ∀ x ∈ xs, 0 ≤ x ∧ x ≤ n - 1 := by
  intro x hx
  obtain ⟨i, hi, rfl⟩ := List.mem_iff_getElem.1 hx
  have := h i hi
  rw [← nth_eq hi]
  exact ⟨this.1, this.2.1⟩
theorem SetP.mk {xs : List Int} {n : Int} (hp : xs.Pairwise (· < ·)) (hb : ∀ x ∈ xs, 0 ≤ x ∧ x ≤ n - 1) : SetP xs n := by
  intro i hi
  have h1 := hb _ (nth_mem hi)
  refine ⟨h1.1, h1.2, fun h0 => ?_⟩
  have := List.pairwise_iff_getElem.1 hp (i - 1) i (by omega) hi (by omega)
  rw [nth_eq hi, nth_eq (by omega : i - 1 < xs.length)]
  exact this
theorem hasB_mem (xs : List Int) (x : Int) : hasB xs x = true ↔ x ∈ xs := by
  rw [hasB_iff]
  constructor
  · rintro ⟨i, hi, rfl⟩; exact nth_mem hi
  · intro h
    obtain ⟨i, hi, rfl⟩ := List.mem_iff_getElem.1 h
    exact ⟨i, hi, nth_eq hi⟩

theorem take_snoc {xs : List Int} {k : Nat} (h : k < xs.length) : xs.take (k + 1) = xs.take k ++ [nth xs k] := by
  rw [List.take_succ_eq_append_getElem h, nth_eq h]

/-- The greater neighbours among the first k. -/
def gts (u : Nat) (row : List Int) (k : Nat) : List Int := (row.take k).filter (fun x => decide ((u : Int) < x))
theorem edgesRow_gts (u : Nat) (row : List Int) (k : Nat) (hk : k ≤ row.length) : edgesRow u row k = (gts u row k).map (fun x => [(u : Int), x]) := by
  induction k with
  | zero => simp [edgesRow, gts]
  | succ k ih =>
    have e : gts u row (k + 1) = gts u row k ++ if (u : Int) < nth row k then [nth row k] else [] := by
      unfold gts
      rw [take_snoc (by omega), List.filter_append]
      congr 1
      by_cases h : (u : Int) < nth row k <;> simp [h]
    rw [edgesRow, ih (by omega), e, List.map_append]
    congr 1
    split <;> simp

/-- The edges from u to u + 1, .., u + m, as the program finds them. -/
def impRow (M u : Nat) : Nat → List (List Int)
  | 0 => []
  | m + 1 => impRow M u m ++ if hasM M ((u + 1 + m : Nat) : Int) = true then [[(u : Int), ((u + 1 + m : Nat) : Int)]] else []
def ups (M u m : Nat) : List Int := ((List.range m).map (fun i : Nat => ((u + 1 + i : Nat) : Int))).filter (fun x => hasM M x)
theorem impRow_ups (M u m : Nat) : impRow M u m = (ups M u m).map (fun x => [(u : Int), x]) := by
  induction m with
  | zero => simp [impRow, ups]
  | succ m ih =>
    have e : ups M u (m + 1) = ups M u m ++ if hasM M ((u + 1 + m : Nat) : Int) = true then [((u + 1 + m : Nat) : Int)] else [] := by
      unfold ups
      rw [List.range_succ, List.map_append, List.filter_append]
      congr 1
      by_cases h : hasM M ((u + 1 + m : Nat) : Int) = true
      · rw [if_pos h]; exact List.filter_cons_of_pos h
      · rw [if_neg h]; exact List.filter_cons_of_neg h
    rw [impRow, ih, e, List.map_append]
    congr 1
    split <;> simp

theorem impRow_eq {L : List (List Int)} (hG : GraphP L) {u : Nat} (hu : u < L.length) : impRow (rowM L u) u (L.length - (u + 1)) = edgesRow u (nthR L u) (nthR L u).length := by
  have hs := (hG.2.1 u hu).1
  have hz := hG.1
  rw [edgesRow_gts u _ _ (Nat.le_refl _), impRow_ups]
  congr 1
  have hsP : ∀ v, v < L.length → SetP (nthR L v) L.length := fun v hv => (hG.2.1 v hv).1
  refine set_ext (n := L.length) hz.2 ?_ ?_ ?_
  · refine SetP.mk ?_ ?_
    · unfold ups
      refine List.Pairwise.filter _ ?_
      rw [List.pairwise_map]
      refine List.Pairwise.imp ?_ List.pairwise_lt_range
      intro a b hab
      omega
    · intro x hx
      unfold ups at hx
      simp only [List.mem_filter, List.mem_map, List.mem_range] at hx
      obtain ⟨⟨i, hi, rfl⟩, _⟩ := hx
      omega
  · refine SetP.mk ?_ ?_
    · unfold gts
      refine List.Pairwise.filter _ ?_
      rw [List.take_length]
      exact hs.pairwise
    · intro x hx
      unfold gts at hx
      rw [List.take_length, List.mem_filter] at hx
      exact hs.bounds x hx.1
  · intro x hx
    rw [Bool.eq_iff_iff, hasB_mem, hasB_mem]
    unfold ups gts
    rw [List.take_length, List.mem_filter, List.mem_filter]
    rw [rowM_has hsP hu hx, hasB_mem]
    simp only [List.mem_map, List.mem_range, decide_eq_true_iff]
    constructor
    · rintro ⟨⟨i, hi, e⟩, h2⟩
      exact ⟨h2, by omega⟩
    · rintro ⟨h2, h3⟩
      have := hs.bounds _ h2
      exact ⟨⟨x - (u + 1), by omega, by omega⟩, h2⟩

/-- What EdgesOf answers. -/
def edgesL (L : List (List Int)) : List (List Int) := if GraphP L then edgesTo L L.length else []

end Go.Proofs.Ytikfbfclbmlopaa

/- Words for memory of the call's own between two block numbers, and for what marking it does. No statement of the program. -/
namespace Go.Proofs.Ytikfbfclbmlopaa
open Go.RowKit

/-- k, k + 1, .., n numbers. -/
def seqFrom (k : Int) (n : Nat) : List Int := (List.range n).map (fun i : Nat => k + (i : Int))
theorem seqFrom_len (k : Int) (n : Nat) : (seqFrom k n).length = n := by simp [seqFrom]
theorem seqFrom_nth (k : Int) {n i : Nat} (h : i < n) : nth (seqFrom k n) i = k + i := by simp [seqFrom, nth, h]
/-- How many numbers the first i rows hold. -/
def totTo (L : List (List Int)) : Nat → Nat
  | 0 => 0
  | i + 1 => totTo L i + (nthR L i).length
theorem totTo_le {L : List (List Int)} {B : Nat} (h : ∀ i, i < L.length → (nthR L i).length ≤ B) : ∀ i, i ≤ L.length → totTo L i ≤ B * i
  | 0, _ => by simp [totTo]
  | i + 1, hi => by
    have := totTo_le h i (by omega)
    have := h i (by omega)
    simp only [totTo, Nat.mul_add, Nat.mul_one]
    omega
theorem totTo_mono (L : List (List Int)) {i j : Nat} (h : i ≤ j) : totTo L i ≤ totTo L j := by
  induction j with
  | zero => have : i = 0 := by omega
            subst this; exact Nat.le_refl _
  | succ j ih =>
    by_cases e : i = j + 1
    · subst e; exact Nat.le_refl _
    · have := ih (by omega)
      simp only [totTo]; omega
/-- The numbers that marking writes, from k on. -/
def marksG (L : List (List Int)) (k : Int) : List (List Int) := (List.range L.length).map (fun i : Nat => seqFrom (k + totTo L i) (nthR L i).length)
theorem marksG_len (L : List (List Int)) (k : Int) : (marksG L k).length = L.length := by simp [marksG]
theorem marksG_nth (L : List (List Int)) (k : Int) {i : Nat} (h : i < L.length) : nthR (marksG L k) i = seqFrom (k + totTo L i) (nthR L i).length := by simp [marksG, nthR, h]

/-- Between B and U something may have been written; all else that was there is as it was. -/
structure Touched (B U : Nat) (w w' : World) : Prop where
  os : w'.os = w.os
  tape : w'.tape = w.tape
  output : w'.output = w.output
  size : w.heap.size ≤ w'.heap.size
  other : ∀ j, j < w.heap.size → (j < B ∨ U ≤ j) → w'.heap[j]? = w.heap[j]?
theorem Touched.refl (B U : Nat) (w : World) : Touched B U w w := ⟨rfl, rfl, rfl, Nat.le_refl _, fun _ _ _ => rfl⟩
theorem Touched.trans {B U : Nat} {a b c : World} (h : Touched B U a b) (k : Touched B U b c) : Touched B U a c :=
  ⟨k.os.trans h.os, k.tape.trans h.tape, k.output.trans h.output, Nat.le_trans h.size k.size, fun j h1 h2 => (k.other j (Nat.lt_of_lt_of_le h1 h.size) h2).trans (h.other j h1 h2)⟩
theorem Touched.below {B U : Nat} {w w' : World} (h : Touched B U w w') (hB : B ≤ w.heap.size) : Below B w w' :=
  ⟨h.os, h.tape, h.output, h.size, fun k hk => h.other k (by omega) (Or.inl hk)⟩
theorem Touched.ofBelow {B U : Nat} {w w' : World} (h : Below w.heap.size w w') : Touched B U w w' :=
  ⟨h.os, h.tape, h.output, h.size, fun j h1 _ => h.block j h1⟩
theorem Touched.wide {B U B' U' : Nat} {w w' : World} (h : Touched B U w w') (hB : B' ≤ B) (hU : U ≤ U') : Touched B' U' w w' :=
  ⟨h.os, h.tape, h.output, h.size, fun j h1 h2 => h.other j h1 (by omega)⟩

/-- A row of the call's own that lies below U. -/
def OwnRowU (T : TypeId) (w : World) (B U : Nat) (v : Value) (xs : List Int) : Prop := OwnRow T w B v xs ∧ ∀ k, v.ownBlock = some k → k < U
/-- A grid of the call's own that lies below U. -/
def OwnGridU (T T1 : TypeId) (w : World) (B U : Nat) (v : Value) (L : List (List Int)) : Prop :=
  ∃ R : Nat → Value, L.length ≤ maxLen ∧
  ((v = .slice none 0 0 ∧ L = []) ∨
   ∃ g cap cur, v = .slice (some ⟨g, 0, none⟩) L.length cap ∧ B ≤ g ∧ g < U ∧ w.heap[g]? = some (.cells cur T1 (0, 0)) ∧ L.length ≤ cap ∧ cap ≤ maxLen ∧ cur.size = cap ∧
     ∀ i, i < L.length → cur[i]? = some (R i)) ∧
  (∀ i, i < L.length → OwnRowU T w B U (R i) (nthR L i)) ∧
  ∀ i j k, i < j → j < L.length → (R i).ownBlock = some k → (R j).ownBlock ≠ some k

theorem OwnRow.under {T : TypeId} {w : World} {B : Nat} {v : Value} {xs : List Int} (h : OwnRow T w B v xs) : OwnRowU T w B w.heap.size v xs := ⟨h, fun k hk => (h.lt k hk).2⟩
theorem OwnGrid.under {T T1 : TypeId} {w : World} {B : Nat} {v : Value} {L : List (List Int)} (h : OwnGrid T T1 w B v L) : OwnGridU T T1 w B w.heap.size v L := by
  obtain ⟨R, h2, h3, h4, h5⟩ := h
  refine ⟨R, h2, ?_, fun i hi => (h4 i hi).under, h5⟩
  rcases h3 with h3 | ⟨g, cap, cur, e, hg, hh, r⟩
  · exact Or.inl h3
  · obtain ⟨hlt, _⟩ := Array.getElem?_eq_some_iff.1 hh
    exact Or.inr ⟨g, cap, cur, e, hg, hlt, hh, r⟩
theorem OwnGridU.own {T T1 : TypeId} {w : World} {B U : Nat} {v : Value} {L : List (List Int)} (h : OwnGridU T T1 w B U v L) : OwnGrid T T1 w B v L := by
  obtain ⟨R, h2, h3, h4, h5⟩ := h
  refine ⟨R, h2, ?_, fun i hi => (h4 i hi).1, h5⟩
  rcases h3 with h3 | ⟨g, cap, cur, e, hg, _, hh, r⟩
  · exact Or.inl h3
  · exact Or.inr ⟨g, cap, cur, e, hg, hh, r⟩

/-- What lies elsewhere stays, when something is touched. -/
theorem OwnRow.touched {T : TypeId} {w w' : World} {B U B' : Nat} {v : Value} {xs : List Int} (h : OwnRow T w B' v xs) (ht : Touched B U w w') (hU : U ≤ B') : OwnRow T w' B' v xs := by
  obtain ⟨h1, h2, h3⟩ := h
  refine ⟨h1, h2, ?_⟩
  rcases h3 with h3 | ⟨g, cap, cur, e, hg, hh, r⟩
  · exact Or.inl h3
  · obtain ⟨hlt, _⟩ := Array.getElem?_eq_some_iff.1 hh
    exact Or.inr ⟨g, cap, cur, e, hg, by rw [ht.other g hlt (Or.inr (by omega))]; exact hh, r⟩
theorem OwnGrid.touched {T T1 : TypeId} {w w' : World} {B U B' : Nat} {v : Value} {L : List (List Int)} (h : OwnGrid T T1 w B' v L) (ht : Touched B U w w') (hU : U ≤ B') : OwnGrid T T1 w' B' v L := by
  obtain ⟨R, h2, h3, h4, h5⟩ := h
  refine ⟨R, h2, ?_, fun i hi => (h4 i hi).touched ht hU, h5⟩
  rcases h3 with h3 | ⟨g, cap, cur, e, hg, hh, r⟩
  · exact Or.inl h3
  · obtain ⟨hlt, _⟩ := Array.getElem?_eq_some_iff.1 hh
    exact Or.inr ⟨g, cap, cur, e, hg, by rw [ht.other g hlt (Or.inr (by omega))]; exact hh, r⟩
theorem OwnRowU.keep {T : TypeId} {w w' : World} {B U : Nat} {v : Value} {xs : List Int} (h : OwnRowU T w B U v xs) (hb : Below w.heap.size w w') : OwnRowU T w' B U v xs := ⟨h.1.keep hb, h.2⟩
theorem OwnGridU.keep {T T1 : TypeId} {w w' : World} {B U : Nat} {v : Value} {L : List (List Int)} (h : OwnGridU T T1 w B U v L) (hb : Below w.heap.size w w') : OwnGridU T T1 w' B U v L := by
  obtain ⟨R, h2, h3, h4, h5⟩ := h
  refine ⟨R, h2, ?_, fun i hi => (h4 i hi).keep hb, h5⟩
  rcases h3 with h3 | ⟨g, cap, cur, e, hg, hu, hh, r⟩
  · exact Or.inl h3
  · obtain ⟨hlt, _⟩ := Array.getElem?_eq_some_iff.1 hh
    exact Or.inr ⟨g, cap, cur, e, hg, hu, by rw [hb.block g hlt]; exact hh, r⟩

/-- What lies in another stretch of blocks stays, when something is touched. -/
theorem OwnRowU.apart {T : TypeId} {w w' : World} {B U B' U' : Nat} {v : Value} {xs : List Int} (h : OwnRowU T w B' U' v xs) (ht : Touched B U w w') (hd : U' ≤ B ∨ U ≤ B') : OwnRowU T w' B' U' v xs := by
  obtain ⟨⟨h1, h2, h3⟩, hu⟩ := h
  refine ⟨⟨h1, h2, ?_⟩, hu⟩
  rcases h3 with h3 | ⟨g, cap, cur, e, hg, hh, r⟩
  · exact Or.inl h3
  · obtain ⟨hlt, _⟩ := Array.getElem?_eq_some_iff.1 hh
    have hgu := hu g (by rw [e]; rfl)
    exact Or.inr ⟨g, cap, cur, e, hg, by rw [ht.other g hlt (by omega)]; exact hh, r⟩
theorem OwnGridU.apart {T T1 : TypeId} {w w' : World} {B U B' U' : Nat} {v : Value} {L : List (List Int)} (h : OwnGridU T T1 w B' U' v L) (ht : Touched B U w w') (hd : U' ≤ B ∨ U ≤ B') : OwnGridU T T1 w' B' U' v L := by
  obtain ⟨R, h2, h3, h4, h5⟩ := h
  refine ⟨R, h2, ?_, fun i hi => (h4 i hi).apart ht hd, h5⟩
  rcases h3 with h3 | ⟨g, cap, cur, e, hg, hu, hh, r⟩
  · exact Or.inl h3
  · obtain ⟨hlt, _⟩ := Array.getElem?_eq_some_iff.1 hh
    exact Or.inr ⟨g, cap, cur, e, hg, hu, by rw [ht.other g hlt (by omega)]; exact hh, r⟩
theorem cell_apart {w w' : World} {B U : Nat} {a : Addr} {v : Value} (h : w.cell? a = some v) (ht : Touched B U w w') (hd : a.block < B ∨ U ≤ a.block) : w'.cell? a = some v := by
  rw [World.cell?_of_block (w := w) (ht.other a.block (block_lt_of_cell h) hd)]; exact h
theorem OwnRowU.read {T : TypeId} {w : World} {B U : Nat} {v : Value} {xs : List Int} (h : OwnRowU T w B U v xs) : RowAt w v xs := h.1.row
theorem OwnGridU.read {T T1 : TypeId} {w : World} {B U : Nat} {v : Value} {L : List (List Int)} (h : OwnGridU T T1 w B U v L) : GridAt w v L := h.own.grid

/-- Only block g has been written. -/
structure OnlyBlk (g : Nat) (w w' : World) : Prop where
  os : w'.os = w.os
  tape : w'.tape = w.tape
  output : w'.output = w.output
  size : w'.heap.size = w.heap.size
  other : ∀ j, j ≠ g → w'.heap[j]? = w.heap[j]?
theorem OnlyBlk.refl (g : Nat) (w : World) : OnlyBlk g w w := ⟨rfl, rfl, rfl, rfl, fun _ _ => rfl⟩
theorem OnlyBlk.setCell {g : Nat} {w w' : World} (h : OnlyBlk g w w') (i : Nat) (v : Value) : OnlyBlk g w (w'.setCell ⟨g, i, none⟩ v) :=
  ⟨h.os, h.tape, h.output, by rw [size_setCell1]; exact h.size, fun j hj => by rw [heap_setCell_other _ _ _ _ (by simpa using hj)]; exact h.other j hj⟩
theorem OnlyBlk.touched {g B U : Nat} {w w' : World} (h : OnlyBlk g w w') (hB : B ≤ g) (hU : g < U) : Touched B U w w' :=
  ⟨h.os, h.tape, h.output, Nat.le_of_eq h.size.symm, fun j _ hj => h.other j (by omega)⟩

theorem OwnRow.only {T : TypeId} {w w' : World} {B g : Nat} {v : Value} {xs : List Int} (h : OwnRow T w B v xs) (ho : OnlyBlk g w w') (hne : v.ownBlock ≠ some g) : OwnRow T w' B v xs := by
  obtain ⟨h1, h2, h3⟩ := h
  refine ⟨h1, h2, ?_⟩
  rcases h3 with h3 | ⟨g', cap, cur, e, hg, hh, r⟩
  · exact Or.inl h3
  · refine Or.inr ⟨g', cap, cur, e, hg, ?_, r⟩
    rw [ho.other g' (fun e2 => hne (by rw [e, e2]; rfl))]
    exact hh
/-- The row's block is of the element's type. -/
theorem OwnRow.blk {T : TypeId} {w : World} {B g : Nat} {v : Value} {xs : List Int} (h : OwnRow T w B v xs) (hg : v.ownBlock = some g) : ∃ cur, w.heap[g]? = some (.cells cur T (0, 0)) := by
  rcases h.2.2 with ⟨e, _⟩ | ⟨g', cap, cur, e, _, hh, _⟩
  · rw [e] at hg; simp [Value.ownBlock] at hg
  · rw [e] at hg
    simp [Value.ownBlock] at hg
    subst hg
    exact ⟨cur, hh⟩

end Go.Proofs.Ytikfbfclbmlopaa

/- Plain facts: a mask's list; a row of one's own grid put anew. -/
namespace Go.Proofs.Ytikfbfclbmlopaa
open Go.RowKit

/-- The vertices of a mask, rising. -/
def listM (M : Nat) : List Int := ((List.range 16).filter (fun i => M.testBit i)).map (fun i : Nat => (i : Int))
theorem listM_mem (M : Nat) (x : Int) : x ∈ listM M ↔ ∃ i : Nat, i < 16 ∧ M.testBit i = true ∧ (i : Int) = x := by
  unfold listM
  simp only [List.mem_map, List.mem_filter, List.mem_range]
  constructor
  · rintro ⟨i, ⟨h1, h2⟩, h3⟩; exact ⟨i, h1, h2, h3⟩
  · rintro ⟨i, h1, h2, h3⟩; exact ⟨i, ⟨h1, h2⟩, h3⟩
theorem listM_set (M : Nat) : SetP (listM M) 16 := by
  refine SetP.mk ?_ ?_
  · unfold listM
    rw [List.pairwise_map]
    refine List.Pairwise.imp ?_ (List.Pairwise.filter _ List.pairwise_lt_range)
    intro a b hab
    omega
  · intro x hx
    obtain ⟨i, h1, _, rfl⟩ := (listM_mem M x).1 hx
    omega
theorem listM_len (M : Nat) : (listM M).length ≤ 16 := by
  unfold listM
  rw [List.length_map]
  have := List.length_filter_le (fun i => M.testBit i) (List.range 16)
  rw [List.length_range] at this
  exact this
theorem listM_zero : listM 0 = [] := by simp [listM]
theorem listM_i64 (M : Nat) : ∀ x ∈ listM M, I64 x := by
  intro x hx
  obtain ⟨i, h1, _, rfl⟩ := (listM_mem M x).1 hx
  unfold I64; omega

theorem sets_eq {xs ys : List Int} (hx : SetP xs 16) (hy : SetP ys 16) (h : ∀ z, z ∈ xs ↔ z ∈ ys) : xs = ys :=
  set_ext (n := 16) (Nat.le_refl _) hx hy (fun u _ => by rw [Bool.eq_iff_iff, hasB_mem, hasB_mem]; exact h u)

theorem mem_or (M x : Nat) (hx : x < 16) (z : Int) : z ∈ listM (M ||| 2 ^ x) ↔ z ∈ listM M ∨ z = (x : Int) := by
  rw [listM_mem, listM_mem]
  constructor
  · rintro ⟨i, h1, h2, h3⟩
    rw [Nat.testBit_or, Bool.or_eq_true, Nat.testBit_two_pow, decide_eq_true_iff] at h2
    rcases h2 with h2 | h2
    · exact Or.inl ⟨i, h1, h2, h3⟩
    · right; omega
  · rintro (⟨i, h1, h2, h3⟩ | rfl)
    · exact ⟨i, h1, by rw [Nat.testBit_or, h2, Bool.true_or], h3⟩
    · exact ⟨x, hx, by rw [Nat.testBit_or, Nat.testBit_two_pow, decide_eq_true rfl, Bool.or_true], rfl⟩

/-- What stands in a rising list where x was put in. -/
theorem into_list {M x k : Nat} (hx : x < 16) (hk : k ≤ (listM M).length) (hlo : ∀ j, j < k → nth (listM M) j < (x : Int)) (hhi : k = (listM M).length ∨ (x : Int) < nth (listM M) k) :
    (listM M).take k ++ (x : Int) :: (listM M).drop k = listM (M ||| 2 ^ x) := by
  have hp := (listM_set M).pairwise
  have hb := (listM_set M).bounds
  refine sets_eq (SetP.mk ?_ ?_) (listM_set _) ?_
  · rw [List.pairwise_append]
    refine ⟨hp.sublist (List.take_sublist _ _), ?_, ?_⟩
    · rw [List.pairwise_cons]
      refine ⟨?_, hp.sublist (List.drop_sublist _ _)⟩
      intro z hz
      obtain ⟨i, hi, rfl⟩ := List.mem_iff_getElem.1 hz
      rw [List.length_drop] at hi
      rw [List.getElem_drop]
      rcases hhi with e | hlt
      · omega
      · rw [nth_eq (by omega)] at hlt
        by_cases e : i = 0
        · subst e; simpa using hlt
        · have := List.pairwise_iff_getElem.1 hp k (k + i) (by omega) (by omega) (by omega)
          omega
    · intro a ha b hb'
      obtain ⟨i, hi, rfl⟩ := List.mem_iff_getElem.1 ha
      rw [List.length_take] at hi
      rw [List.getElem_take]
      have h1 := hlo i (by omega)
      rw [nth_eq (by omega)] at h1
      rcases List.mem_cons.1 hb' with rfl | hb'
      · exact h1
      · obtain ⟨j, hj, rfl⟩ := List.mem_iff_getElem.1 hb'
        rw [List.length_drop] at hj
        rw [List.getElem_drop]
        exact List.pairwise_iff_getElem.1 hp i (k + j) (by omega) (by omega) (by omega)
  · intro z hz
    rcases List.mem_append.1 hz with hz | hz
    · exact hb z (List.mem_of_mem_take hz)
    · rcases List.mem_cons.1 hz with rfl | hz
      · omega
      · exact hb z (List.mem_of_mem_drop hz)
  · intro z
    rw [mem_or M x hx, List.mem_append, List.mem_cons]
    constructor
    · rintro (h | h | h)
      · exact Or.inl (List.mem_of_mem_take h)
      · exact Or.inr h
      · exact Or.inl (List.mem_of_mem_drop h)
    · rintro (h | h)
      · rw [← List.take_append_drop k (listM M), List.mem_append] at h
        rcases h with h | h
        · exact Or.inl h
        · exact Or.inr (Or.inr h)
      · exact Or.inr (Or.inl h)
theorem into_same {M x k : Nat} (hx : x < 16) (hk : k < (listM M).length) (he : nth (listM M) k = (x : Int)) : listM M = listM (M ||| 2 ^ x) := by
  refine sets_eq (listM_set _) (listM_set _) (fun z => ?_)
  rw [mem_or M x hx]
  constructor
  · exact Or.inl
  · rintro (h | rfl)
    · exact h
    · rw [← he]; exact nth_mem hk

/-- A number put into a row of one's own that lists a mask. -/
def IntoOwn (w : World) (B : Nat) (v : Value) (M x : Nat) (e : Ending) (w' : World) : Prop :=
  ∃ n a c, e = .returned (.slice a n c) ∧ OwnRow 2 w' B (.slice a n c) (listM (M ||| 2 ^ x)) ∧ ((Value.slice a n c).ownBlock = v.ownBlock ∨ ∀ k, (Value.slice a n c).ownBlock = some k → w.heap.size ≤ k) ∧ Below w.heap.size w w'

theorem l1Into_own (v : Value) (M x B : Nat) (w : World) (h : OwnRow 2 w B v (listM M)) (hB : B ≤ w.heap.size) (hx : x < 16) : Calls Try.prog 131 #[v, .int .i64 (x : Int)] w (IntoOwn w B v M x) := by
  refine (l1Into_any v (listM M) x w h.row (by unfold I64; omega) (by have := listM_len M; omega)).mono ?_
  rintro e w' ⟨k, hk, hlo, (⟨hlt, he, rfl, hb⟩ | ⟨hhi, n, a, c, rfl, ho, hb⟩)⟩
  · obtain ⟨a, c, e2⟩ := h.row.slice
    refine ⟨_, a, c, by rw [e2], ?_, Or.inl (by rw [e2]), hb⟩
    rw [← e2, ← into_same hx hlt he]
    exact h.keep hb
  · refine ⟨n, a, c, rfl, ?_, Or.inr (fun k hk => (ho.lt k hk).1), hb⟩
    rw [into_list hx hk hlo hhi] at ho
    exact ho.mono hB

/-- A row of one's own grid put anew. -/
theorem OwnGrid.setRow {T T1 : TypeId} {w w' : World} {B g n cap i : Nat} {L : List (List Int)} {rv : Value} {xs : List Int} (hT : T ≠ T1) (h : OwnGrid T T1 w B (.slice (some ⟨g, 0, none⟩) n cap) L) (hb : Below w.heap.size w w') (hi : i < L.length) (hr : OwnRow T w' B rv xs)
    (hblk : ∀ k, rv.ownBlock = some k → w.heap.size ≤ k ∨ w.cell? ⟨g, i, none⟩ = none ∨ ∃ u, w.cell? ⟨g, i, none⟩ = some u ∧ u.ownBlock = some k) :
    OwnGrid T T1 (w'.setCell ⟨g, i, none⟩ rv) B (.slice (some ⟨g, 0, none⟩) n cap) (L.set i xs) := by
  obtain ⟨R, h2, h3, h4, h5⟩ := h
  rcases h3 with ⟨e, _⟩ | ⟨g', cap', cur, e, hg, hh, l1, l2, hs, hc⟩
  · cases e
  · simp only [Value.slice.injEq, Option.some.injEq, Addr.mk.injEq, and_true] at e
    obtain ⟨rfl, rfl, rfl⟩ := e
    obtain ⟨hlt, _⟩ := Array.getElem?_eq_some_iff.1 hh
    have hh' : w'.heap[g]? = some (.cells cur T1 (0, 0)) := by rw [hb.block g hlt]; exact hh
    have hci : w.cell? ⟨g, i, none⟩ = some (R i) := by rw [cell_of_row w g i cur _ _ hh]; exact hc i hi
    have hne : ∀ u ys, OwnRow T w' B u ys → u.ownBlock ≠ some g := by
      intro u ys hu hub
      obtain ⟨c2, hc2⟩ := hu.blk hub
      rw [hh'] at hc2
      simp at hc2
      exact hT hc2.2.symm
    have hlen : (L.set i xs).length = L.length := by simp
    have hnth : ∀ j, nthR (L.set i xs) j = if j = i then xs else nthR L j := by
      intro j
      unfold nthR
      by_cases e : j = i
      · subst e; simp [hi]
      · simp only [e, if_false]
        rw [List.getD_eq_getElem?_getD, List.getD_eq_getElem?_getD, List.getElem?_set_ne (by omega)]
    refine ⟨fun j => if j = i then rv else R j, by rw [hlen]; exact h2, Or.inr ⟨g, cap, cur.setIfInBounds i rv, by rw [hlen], hg, heap_setCell_same w' g i cur T1 rv hh', by rw [hlen]; exact l1, l2, by rw [Array.size_setIfInBounds]; exact hs, fun j hj => ?_⟩, fun j hj => ?_, fun p q k hpq hq hk => ?_⟩
    · rw [hlen] at hj
      rw [Array.getElem?_setIfInBounds]
      by_cases e : i = j
      · subst e
        rw [if_pos rfl, if_pos (by omega)]
        simp
      · rw [if_neg e, hc j hj]
        simp [show ¬ j = i from fun h => e h.symm]
    · rw [hlen] at hj
      rw [hnth j]
      by_cases e : j = i
      · simp only [e, if_true]
        exact hr.setCell (hne rv xs hr) _
      · simp only [e, if_false]
        have := (h4 j hj).keep hb
        exact this.setCell (hne _ _ this) _
    · rw [hlen] at hq
      have fresh : ∀ j, j ≠ i → j < L.length → ∀ k, rv.ownBlock = some k → (R j).ownBlock ≠ some k := by
        intro j hji hjl k hk2 hj2
        rcases hblk k hk2 with h6 | h6 | ⟨u, hu, hub⟩
        · have := ((h4 j hjl).lt k hj2).2; omega
        · rw [hci] at h6; cases h6
        · rw [hci] at hu
          cases hu
          rcases Nat.lt_or_gt_of_ne hji with h7 | h7
          · exact h5 j i k h7 hi hj2 hub
          · exact h5 i j k h7 hjl hub hj2
      simp only at hk ⊢
      by_cases e1 : p = i
      · have e2 : ¬ q = i := by omega
        simp only [e1, if_true] at hk
        simp only [e2, if_false]
        exact fresh q e2 hq k hk
      · simp only [e1, if_false] at hk
        by_cases e2 : q = i
        · simp only [e2, if_true]
          intro h8
          exact fresh p e1 (by omega) k h8 hk
        · simp only [e2, if_false]
          exact h5 p q k hpq hq hk

end Go.Proofs.Ytikfbfclbmlopaa
