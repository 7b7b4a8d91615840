/- Walks: the model's list of edges. -/
import Derived.Test.YtjbfoiolcpigfaaDoorC2
import Derived.Test.YtjbfoiolcpigfaaDoorGrid
import Derived.Test.YtjbfoiolcpigfaaDoorLater
namespace Go.Proofs.YtjbfoiolcpigfaaDoor
open Go.RowKit

/-- The edges from u to the first k of its neighbours. -/
def edgesRow (u : Nat) (row : List Int) : Nat → List (List Int)
  | 0 => []
  | k + 1 => edgesRow u row k ++ if (u : Int) < nth row k then [[(u : Int), nth row k]] else []
/-- The edges of the first u vertices. -/
def edgesTo (L : List (List Int)) : Nat → List (List Int)
  | 0 => []
  | u + 1 => edgesTo L u ++ edgesRow u (nthR L u) (nthR L u).length

theorem edgesRow_len (u : Nat) (row : List Int) (k : Nat) : (edgesRow u row k).length ≤ k := by
  induction k with
  | zero => simp [edgesRow]
  | succ k ih => simp only [edgesRow, List.length_append]; split <;> simp <;> omega
theorem edgesTo_len (L : List (List Int)) (h : ∀ u, u < L.length → (nthR L u).length ≤ 16) (u : Nat) (hu : u ≤ L.length) : (edgesTo L u).length ≤ 16 * u := by
  induction u with
  | zero => simp [edgesTo]
  | succ u ih =>
    have := edgesRow_len u (nthR L u) (nthR L u).length
    have := h u (by omega)
    have := ih (by omega)
    simp only [edgesTo, List.length_append]
    omega

theorem own_two {T : TypeId} {w : World} {x y : Int} (hx : I64 x) (hy : I64 y) : OwnRow T (w.alloc (.cells #[.int .i64 x, .int .i64 y] T)) w.heap.size (.slice (some ⟨w.heap.size, 0, none⟩) 2 2) [x, y] := by
  refine ⟨by intro z hz; simp at hz; rcases hz with rfl | rfl; exact hx; exact hy, by unfold maxLen; simp, Or.inr ⟨w.heap.size, 2, #[.int .i64 x, .int .i64 y], rfl, Nat.le_refl _, heap_alloc_new _ _, by simp, by unfold maxLen; omega, rfl, fun i hi => ?_⟩⟩
  have hi' : i < 2 := by simpa using hi
  have : i = 0 ∨ i = 1 := by omega
  rcases this with rfl | rfl <;> rfl
theorem own_none {T T1 : TypeId} (w : World) (B : Nat) (hB : B ≤ w.heap.size) : OwnGrid T T1 (w.alloc (.cells #[] T1)) B (.slice (some ⟨w.heap.size, 0, none⟩) 0 0) [] :=
  ⟨fun _ => undef, Nat.zero_le _, Or.inr ⟨w.heap.size, 0, #[], rfl, hB, heap_alloc_new _ _, Nat.le_refl _, Nat.zero_le _, rfl, fun i hi => absurd hi (by simp)⟩, fun i hi => absurd hi (by simp), fun i j k _ hj => absurd hj (by simp)⟩

set_option maxHeartbeats 1600000 in
theorem l1Edges_any (v : Value) (L : List (List Int)) (w : World) (h : GridAt w v L) (hG : GraphP L) :
    Calls Tryd.prog 75 #[.agg #[v]] w (GaveGrid w (edgesTo L L.length)) := by
  have hz := hG.1
  have hrl : ∀ u, u < L.length → (nthR L u).length ≤ 16 := fun u hu => by have := (hG.2.1 u hu).1.len (by omega); omega
  have HG := Lib.hid hG
  have HRL := Lib.hid hrl
  clear hG hrl
  obtain ⟨b, o, c, A, C, rfl, l1, l2, hc⟩ := h.pos (by omega)
  obtain ⟨W1, hW1⟩ : ∃ W1, W1 = w.alloc (.cells #[.slice (some ⟨b, o, none⟩) L.length c] 29) := ⟨_, rfl⟩
  have hs1 : W1.heap.size = w.heap.size + 1 := by rw [hW1]; simp
  have ha : Below w.heap.size w W1 := by rw [hW1]; exact (Below.refl _ _).alloc (Nat.le_refl _) _
  have kb : W1.cell? ⟨w.heap.size, 0, none⟩ = some (.slice (some ⟨b, o, none⟩) L.length c) := by rw [hW1]; go_simp
  have HC : Hid (∀ i, i < L.length → W1.cell? ⟨b, o + i, none⟩ = some (.slice (A i) (nthR L i).length (C i)) ∧ RowAt W1 (.slice (A i) (nthR L i).length (C i)) (nthR L i)) := fun i hi => ⟨cell_keep ha (hc i hi).1, (hc i hi).2.keep ha⟩
  have HGr := Lib.hid (h.keep ha)
  have KB := Lib.hid kb
  have HA := Lib.hid ha
  have HS1 := Lib.hid hs1
  have HW1 := Lib.hid hW1
  clear hc ha hs1 kb hW1 h
  obtain ⟨i0, hi, hz0, hz1, hz2⟩ := info_parts Tryd.infoR
  go_enter Tryd.func75, Tryd.ntmps75
  go_wp2
  rw [← HW1.out]
  go_loopw [3, 4] (fun v i wr => ∃ k : Nat, k ≤ L.length ∧ i = .int .i64 k ∧ OwnGrid 2 36 wr W1.heap.size v (edgesTo L k) ∧ Below W1.heap.size W1 wr) (fun _ i _ => L.length - (intOf i).toNat)
  case atStart =>
    refine ⟨0, Nat.zero_le _, rfl, ?_, (Below.refl _ _).alloc (Nat.le_refl _) _⟩
    have := own_none (T := 2) (T1 := 36) W1 W1.heap.size (Nat.le_refl _)
    rw [HS1.out] at this ⊢
    exact this
  case round =>
    obtain ⟨k, hk, rfl, hog, hb⟩ := hrel
    have hkb := cell_keep hb KB.out
    have HOG := Lib.hid hog
    have HB := Lib.hid hb
    have hg2 := Lib.hid (HGr.out.keep hb)
    clear hog
    go_wp2_with fail
    refine (l1Size_any _ _ _ hg2.out).mono ?_
    rintro e w2 ⟨rfl, hb2⟩
    have HB2 : Hid (Below W1.heap.size W1 w2) := HB.out.trans (hb2.mono HB.out.size)
    have HOG2 := Lib.hid (HOG.out.keep hb2)
    have hkb2 := cell_keep hb2 hkb
    clear hb2 hkb HOG HB hg2 hb
    by_cases hlt : k < L.length
    · have hck := cell_keep HB2.out (HC.out k hlt).1
      have hrow := (HC.out k hlt).2
      have hrl := HRL.out k hlt
      have hlen := edgesTo_len L HRL.out k hk
      have hset := Lib.hid (HG.out.2.1 k hlt).1
      by_cases hr0 : (nthR L k).length = 0
      · rw [hr0] at hck
        have HE : Hid (edgesTo L (k + 1) = edgesTo L k) := by show edgesTo L (k + 1) = _; simp [edgesTo, hr0, edgesRow]
        clear hr0 hrow
        go_wp2
        refine wp_loop_rounds 1 ?_
        rw [rounds_succ]
        go_wp2
        go_roundw
        case rel => exact ⟨k + 1, by omega, by go_num, by rw [HE.out]; exact HOG2.out, HB2.out⟩
        case measure => simp [intOf]; omega
      · obtain ⟨b1, o1, c1, e1, m1, m2, hcr⟩ := hrow.pos (by omega)
        simp only [Value.slice.injEq, true_and] at e1
        obtain ⟨eA, eC⟩ := e1
        rw [eA] at hck
        have hcrW := Lib.hid hcr
        have hckW : Hid (W1.cell? ⟨b, o + k, none⟩ = some (.slice (some ⟨b1, o1, none⟩) (nthR L k).length (C k))) := by have := (HC.out k hlt).1; rw [eA] at this; exact this
        have hi64 : Hid (∀ x ∈ nthR L k, I64 x) := hrow.1
        clear eA eC hr0 hrow hcr
        go_wp2
        go_loopw [3, 5] (fun v i w3 => ∃ q : Nat, q ≤ (nthR L k).length ∧ i = .int .i64 q ∧ OwnGrid 2 36 w3 W1.heap.size v (edgesTo L k ++ edgesRow k (nthR L k) q) ∧ Below W1.heap.size W1 w3) (fun _ i _ => (nthR L k).length - (intOf i).toNat)
        case atStart => exact ⟨0, Nat.zero_le _, rfl, by simpa [edgesRow] using HOG2.out, HB2.out⟩
        case round =>
          rename World => w3
          obtain ⟨q, hq, rfl, hog, hb⟩ := hrel
          have hck3 := cell_keep hb hckW.out
          have hkb3 := cell_keep hb KB.out
          have HB3 := Lib.hid hb
          have hz3 : W1.heap.size ≤ w3.heap.size := hb.size
          by_cases hql : q < (nthR L k).length
          · have hcq := cell_keep hb (hcrW.out q hql)
            have hst := hset.out q hql
            have hx0 := hst.1
            have hx1 := hst.2.1
            have hI := hi64.out _ (nth_mem hql)
            have hlr := edgesRow_len k (nthR L k) q
            have hes : edgesRow k (nthR L k) (q + 1) = edgesRow k (nthR L k) q ++ if (k : Int) < nth (nthR L k) q then [[(k : Int), nth (nthR L k) q]] else [] := rfl
            have HES := Lib.hid hes
            clear hes hst hb
            generalize hgx : nth (nthR L k) q = x at *
            have HGX := Lib.hid hgx
            clear hgx
            by_cases hlx : (k : Int) < x
            · obtain ⟨E, hE⟩ : ∃ E, E = edgesTo L k ++ edgesRow k (nthR L k) q := ⟨_, rfl⟩
              rw [← hE] at hog
              obtain ⟨R, hR, hRr, hRd⟩ := hog.owns
              have HR := Lib.hid hR
              have HRr := Lib.hid hRr
              have HRd := Lib.hid hRd
              have HES2 : Hid (edgesTo L k ++ edgesRow k (nthR L k) (q + 1) = E ++ [[(k : Int), x]]) := by
                show _ = _
                rw [HES.out, if_pos hlx, hE, List.append_assoc]
              have hll : E.length ≤ 16 * k + q := by rw [hE, List.length_append]; omega
              clear hog hR hRr hRd HES hE
              go_wp2_with (at_builtin; refine wpList_append_own _ rfl (.tmp 33) (.tmp 44) 27 rfl W1.heap.size 36 i0 (.slice none 0 0) 1 24 Tryd.underlying27 hi hz0 hz1 hz2 rfl (by decide) _ _ _ rfl ((HR.out.alloc _).alloc _) ⟨w3.heap.size + 1, 0, none⟩ 1 1 [.slice (some ⟨w3.heap.size, 0, none⟩) 2 2] rfl rfl ?c1 ?c2 ?c3 ?c4 ?c5 ?_)
              case c1 =>
                intro j u hj
                match j, hj with
                | 0, hj => simp at hj; subst hj; simp [Addr.add]
              case c2 => intro u hu; simp at hu; subst hu; rfl
              case c3 => unfold maxLen; omega
              case c4 => omega
              case c5 => simp; omega
              intro v' w4 hown' hgrow _
              have HO' := Lib.hid hown'
              have HGW := Lib.hid hgrow
              clear hown' hgrow
              go_wp2
              go_roundw
              case rel =>
                have hbw : Below w3.heap.size w3 ((w3.alloc (.cells #[.int .i64 (k : Int), .int .i64 x] 2)).alloc (.cells #[.slice (some ⟨w3.heap.size, 0, none⟩) 2 2] 36)) := ((Below.refl _ _).alloc (Nat.le_refl _) _).alloc (by simp) _
                refine ⟨q + 1, by omega, by go_num, ?_, ?_⟩
                · rw [HES2.out]
                  refine OwnGrid.snoc (w0 := w3) (w := (w3.alloc (.cells #[.int .i64 (k : Int), .int .i64 x] 2)).alloc (.cells #[.slice (some ⟨w3.heap.size, 0, none⟩) 2 2] 36)) (rv := .slice (some ⟨w3.heap.size, 0, none⟩) 2 2) (by decide) hbw hz3 ?_ rfl (by unfold maxLen; omega) R HR.out HRr.out HRd.out HO'.out HGW.out
                  exact (own_two (by unfold I64; omega) hI).keep ((Below.refl _ _).alloc (Nat.le_refl _) _)
                · refine (HB3.out.trans (hbw.mono hz3)).grown HGW.out (by simp; omega) (fun j hj => ?_)
                  exact (HR.out.lt j hj).1
              case measure => simp [intOf]; omega
            · have HES2 : Hid (edgesTo L k ++ edgesRow k (nthR L k) (q + 1) = edgesTo L k ++ edgesRow k (nthR L k) q) := by
                show _ = _
                rw [HES.out, if_neg hlx, List.append_nil]
              have HOG3 := Lib.hid hog
              clear hog HES
              go_wp2
              go_roundw
              case rel => exact ⟨q + 1, by omega, by go_num, by rw [HES2.out]; exact HOG3.out, HB3.out⟩
              case measure => simp [intOf]; omega
          · obtain rfl : q = (nthR L k).length := by omega
            have HOG3 := Lib.hid hog
            clear hog hb
            go_wp2
            go_roundw
            case rel => exact ⟨k + 1, by omega, by go_num, HOG3.out, HB3.out⟩
            case measure => simp [intOf]; omega
    · obtain rfl : k = L.length := by omega
      obtain ⟨a3, c3, e3⟩ := HOG2.out.grid.slice
      have HF : Hid (GaveGrid w (edgesTo L L.length) (.returned (.slice a3 (edgesTo L L.length).length c3)) w2) := ⟨_, _, _, rfl, by rw [← e3]; exact HOG2.out.mono (by have := HS1.out; omega), HA.out.trans (HB2.out.mono (by have := HS1.out; omega))⟩
      have HO2 := Lib.hid e3
      subst e3
      clear HOG2
      go_wp2
      go_ret
      exact HF.out

end Go.Proofs.YtjbfoiolcpigfaaDoor
