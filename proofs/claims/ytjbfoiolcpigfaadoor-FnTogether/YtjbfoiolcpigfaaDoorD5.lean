/- Walks: EdgesOf. -/
import Derived.Test.YtjbfoiolcpigfaaDoorQGrid

namespace Go.Proofs.YtjbfoiolcpigfaaDoor
open Go.RowKit

set_option maxHeartbeats 800000 in
theorem specEdgesOf_any (v : Value) (L : List (List Int)) (w : World) (h : GridAt w v L) :
    Calls Tryd.prog 37 #[.agg #[v]] w (GaveGrid w (edgesL L)) := by
  obtain ⟨a0, c0, rfl⟩ := h.slice
  have ha : Below w.heap.size w (w.alloc (.cells #[.slice a0 L.length c0] 29)) := (Below.refl _ _).alloc (Nat.le_refl _) _
  have hk := h.keep ha
  have HA := Lib.hid ha
  clear ha
  go_enter Tryd.func37, Tryd.ntmps37
  go_wp2_with fail
  refine (specGraphOk_any _ _ _ hk).mono ?_
  rintro e w1 ⟨rfl, hb1⟩
  have kb1 : w1.cell? ⟨w.heap.size, 0, none⟩ = some (.slice a0 L.length c0) := by rw [hb1.cell (by simp)]; go_simp
  have R1 := Lib.hid (hk.keep hb1)
  have HB1 : Hid (Below w.heap.size w w1) := HA.out.trans (hb1.mono (by simp))
  clear hb1 hk h HA
  by_cases hG : GraphP L
  · have HE : Hid (edgesL L = edgesTo L L.length) := by show edgesL L = _; simp [edgesL, hG]
    have HGr := Lib.hid hG
    rw [decide_eq_true hG]
    clear hG
    go_wp2_with fail
    refine (l1Edges_any _ _ _ R1.out HGr.out).mono ?_
    rintro e w2 ⟨n2, a2, c2, rfl, ho2, hb2⟩
    have HP : Hid (GaveGrid w (edgesL L) (.returned (.slice a2 n2 c2)) w2) := ⟨_, _, _, rfl, by rw [HE.out]; exact ho2.mono HB1.out.size, HB1.out.trans (hb2.mono HB1.out.size)⟩
    clear hb2 ho2
    go_wp2
    go_ret
    exact HP.out
  · have HE : Hid (edgesL L = []) := by show edgesL L = _; simp [edgesL, hG]
    have HP : Hid (GaveGrid w (edgesL L) (.returned (.slice (some ⟨w1.heap.size, 0, none⟩) 0 0)) (w1.alloc (.cells #[] 36))) := ⟨_, _, _, rfl, by rw [HE.out]; exact own_none w1 _ HB1.out.size, HB1.out.alloc HB1.out.size _⟩
    rw [decide_eq_false hG]
    clear hG
    go_wp2
    go_ret
    exact HP.out

theorem edgesL_small (L : List (List Int)) : Small (edgesL L) := by
  unfold edgesL
  split
  · rename_i hG
    have hz := hG.1
    have hrl : ∀ u, u < L.length → (nthR L u).length ≤ 16 := fun u hu => by have := (hG.2.1 u hu).1.len (by omega); omega
    have h1 := edgesTo_len L hrl L.length (Nat.le_refl _)
    have hall : ∀ u, ∀ e ∈ edgesTo L u, e.length ≤ 2 := by
      intro u
      induction u with
      | zero => simp [edgesTo]
      | succ u ih =>
        intro e he
        simp only [edgesTo, List.mem_append] at he
        rcases he with he | he
        · exact ih e he
        · have : ∀ k, ∀ e ∈ edgesRow u (nthR L u) k, e.length ≤ 2 := by
            intro k
            induction k with
            | zero => simp [edgesRow]
            | succ k ih2 =>
              intro e he
              simp only [edgesRow, List.mem_append] at he
              rcases he with he | he
              · exact ih2 e he
              · split at he
                · simp at he; rw [he]; simp
                · simp at he
          exact this _ e he
    refine ⟨by omega, fun i hi => ?_⟩
    have := hall L.length _ (nthR_mem hi)
    omega
  · exact ⟨by simp, fun i hi => absurd hi (by simp)⟩

end Go.Proofs.YtjbfoiolcpigfaaDoor
