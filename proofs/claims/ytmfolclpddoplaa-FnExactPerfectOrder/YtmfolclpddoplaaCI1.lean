/- Walks: PerfectOrder and ChordalIn of the program. -/
import Derived.Test.YtmfolclpddoplaaEC3
import Derived.Test.YtmfolclpddoplaaER16
import Derived.Test.YtmfolclpddoplaaQER6

namespace Go.Proofs.Ytmfolclpddoplaa
open Go.RowKit

/-- The greedy order, kept if it adds no edge, is the order of the model. -/
theorem pf_by (L : List (List Int)) : (perfB L (byFillL L) = true → pfL L = byFillL L ∧ poV L = true) ∧ (perfB L (byFillL L) = false → pfL L = [] ∧ poV L = false) := by
  by_cases hG : GraphP L
  · obtain ⟨p1, p2⟩ := perf_po hG
    have p1 : pfB (adjB L) L.length = true → perfB L (byFillL L) = true ∧ byFillL L = poS (adjB L) L.length L.length := p1
    have p2 : pfB (adjB L) L.length = false → perfB L (byFillL L) = false := p2
    cases hp : pfB (adjB L) L.length with
    | true =>
      obtain ⟨q1, q2⟩ := p1 hp
      obtain ⟨r1, r2⟩ := pf_yes hG hp
      exact ⟨fun _ => ⟨by rw [r1, q2], r2⟩, (fun h => by rw [q1] at h; cases h)⟩
    | false =>
      have hn := pf_no (L := L) (fun h => by rw [hp] at h; exact absurd h.2 (by simp))
      exact ⟨(fun h => by rw [p2 hp] at h; cases h), fun _ => hn⟩
  · have ho : orderB L (byFillL L) = false := by unfold orderB; rw [decide_eq_false hG]; rfl
    have hp : perfB L (byFillL L) = false := by unfold perfB moreI; rw [ho]; rfl
    have hn := pf_no (L := L) (fun h => hG h.1)
    exact ⟨(fun h => by rw [hp] at h; cases h), fun _ => hn⟩

set_option maxHeartbeats 1600000 in
theorem implPerfectOrder_any (v : Value) (L : List (List Int)) (w : World) (h : GridAt w v L) : Calls Try.prog 45 #[.agg #[v]] w (GaveYes w (pfL L) (poV L)) := by
  obtain ⟨a0, c0, rfl⟩ := h.slice
  have HGK : Hid (∀ W, Below w.heap.size w W → GridAt W (.slice a0 L.length c0) L) := fun W hb => h.keep hb
  have HB0 : Hid (Below w.heap.size w (w.alloc (.cells #[.slice a0 L.length c0] 29))) := (Below.refl _ _).alloc (Nat.le_refl _) _
  have HX0 : Hid (BoxAt (w.alloc (.cells #[.slice a0 L.length c0] 29)) w.heap.size (.slice a0 L.length c0)) := BoxAt.new _ _ _
  obtain ⟨q1, q2⟩ := pf_by L
  have HQ1 := Lib.hid q1
  have HQ2 := Lib.hid q2
  clear h q1 q2
  go_enter Try.func45, Try.ntmps45
  go_wp2_with fail
  refine (implByFill_any _ L _ (HGK.out _ HB0.out)).mono ?_
  rintro e w1 ⟨m1, a1, c1, rfl, ho1, hb1⟩
  have HB1 : Hid (Below w.heap.size w w1) := HB0.out.trans (hb1.mono HB0.out.size)
  have HO1 : Hid (OwnRow 2 w1 w.heap.size (.slice a1 m1 c1) (byFillL L)) := ho1.mono HB0.out.size
  have k1 := (HX0.out.keep hb1).1
  clear hb1 ho1
  go_wp2_with fail
  refine (implPerfectIn_any _ _ L (byFillL L) _ (HGK.out _ HB1.out) HO1.out.row).mono ?_
  rintro e w2 ⟨rfl, hb2⟩
  have HB2 : Hid (Below w.heap.size w w2) := HB1.out.trans (hb2.mono HB1.out.size)
  have HO2 := Lib.hid (HO1.out.keep hb2)
  clear hb2 k1
  obtain ⟨t, ht⟩ : ∃ t, t = perfB L (byFillL L) := ⟨_, rfl⟩
  rw [← ht] at HQ1 HQ2 ⊢
  clear ht
  cases t with
  | true =>
    obtain ⟨e1, e2⟩ := HQ1.out rfl
    go_wp2
    go_ret2
    rw [e2]
    exact ⟨_, _, _, rfl, by rw [e1]; exact HO2.out, HB2.out⟩
  | false =>
    obtain ⟨e1, e2⟩ := HQ2.out rfl
    go_wp2
    go_ret2
    rw [e1, e2]
    exact ⟨0, none, 0, rfl, ⟨by simp, by simp, Or.inl ⟨rfl, rfl⟩⟩, HB2.out⟩

theorem implChordalIn_any (v : Value) (L : List (List Int)) (w : World) (h : GridAt w v L) : Calls Try.prog 43 #[.agg #[v]] w fun e w' => e = .returned (.bool (poV L)) ∧ Below w.heap.size w w' := by
  obtain ⟨a0, c0, rfl⟩ := h.slice
  have HB0 : Hid (Below w.heap.size w (w.alloc (.cells #[.slice a0 L.length c0] 29))) := (Below.refl _ _).alloc (Nat.le_refl _) _
  have hg := h.keep HB0.out
  clear h
  go_enter Try.func43, Try.ntmps43
  go_wp2_with fail
  refine (implPerfectOrder_any _ L _ hg).mono ?_
  rintro e w1 ⟨m, a, c, rfl, _, hb1⟩
  have HB1 : Hid (Below w.heap.size w w1) := HB0.out.trans (hb1.mono HB0.out.size)
  clear hb1 hg
  go_wp2
  go_ret
  exact ⟨rfl, HB1.out⟩
theorem pfL_small (L : List (List Int)) : (pfL L).length ≤ 16 := by
  unfold pfL
  split
  · rename_i h
    have := poS_le (adjB L) L.length L.length
    have := h.1.1.2
    omega
  · simp

end Go.Proofs.Ytmfolclpddoplaa
