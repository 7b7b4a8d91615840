/- Walks: what can be reached. -/
import Derived.Test.YtnjkhiheapmlmaaDoorQY1

namespace Go.Proofs.YtnjkhiheapmlmaaDoor
open Go.RowKit Go.Shelf
attribute [local go_sem] Oper.semAt_some

/-- The mask of those that have come. -/
def gotN (pre : List (Nat × Nat)) : Nat := pre.foldl (fun m p => m ||| 2 ^ p.1) 0
theorem gotN_snoc (pre : List (Nat × Nat)) (p : Nat × Nat) : gotN (pre ++ [p]) = gotN pre ||| 2 ^ p.1 := by simp [gotN]
theorem gotN_bit (pre : List (Nat × Nat)) (u : Nat) : (gotN pre).testBit u = true ↔ ∃ p, p ∈ pre ∧ p.1 = u := by
  have key : ∀ (pre : List (Nat × Nat)) (m : Nat), (pre.foldl (fun m p => m ||| 2 ^ p.1) m).testBit u = true ↔ m.testBit u = true ∨ ∃ p, p ∈ pre ∧ p.1 = u := by
    intro pre
    induction pre with
    | nil => intro m; simp
    | cons q pre ih =>
      intro m
      rw [List.foldl_cons, ih, Nat.testBit_or, Nat.testBit_two_pow, Bool.or_eq_true, decide_eq_true_iff]
      constructor
      · rintro ((h | h) | ⟨p, hp, e⟩)
        · exact .inl h
        · exact .inr ⟨q, by simp, h⟩
        · exact .inr ⟨p, by simp [hp], e⟩
      · rintro (h | ⟨p, hp, e⟩)
        · exact .inl (.inl h)
        · rcases List.mem_cons.1 hp with rfl | hp
          · exact .inl (.inr e)
          · exact .inr ⟨p, hp, e⟩
  unfold gotN
  rw [key]
  simp
open Classical in
/-- The mask of all that can be reached. -/
noncomputable def reachN (A : Nat → Nat → Bool) (S : Nat → Bool) (v : Nat) : Nat := pm (fun u => decide (∃ k, AtD A S v k u))
theorem reachN_lt (A : Nat → Nat → Bool) (S : Nat → Bool) (v : Nat) : reachN A S v < 65536 := pm_lt _
open Classical in
theorem reachN_bit {A : Nat → Nat → Bool} {S : Nat → Bool} {v : Nat} (hS : ∀ u, S u = true → u < 16) (u : Nat) : (reachN A S v).testBit u = true ↔ ∃ k, AtD A S v k u := by
  unfold reachN
  rw [pm_bit, Bool.and_eq_true, decide_eq_true_iff, decide_eq_true_iff]
  exact ⟨fun h => h.2, fun h => ⟨hS u (wk_in h.choose_spec.1), h⟩⟩
theorem gotN_all {A : Nat → Nat → Bool} {S : Nat → Bool} {v : Nat} (hS : ∀ u, S u = true → u < 16) : gotN (visTo A S v 17) = reachN A S v := bit_ext fun u => by
  rw [gotN_bit, reachN_bit hS]
  constructor
  · rintro ⟨p, hp, rfl⟩
    exact ⟨_, ((visTo_mem hS).1 hp).2⟩
  · rintro ⟨k, hk⟩
    have := atD_lt hS hk
    exact ⟨(u, k), (visTo_mem hS).2 ⟨by show k < 17; omega, hk⟩, rfl⟩

set_option maxHeartbeats 2000000 in
set_option maxRecDepth 100000 in
theorem reached_any (bn n : Nat) (M : Nat → Nat) (v K : Nat) (w : World) (h : NetAt w bn n M) (hM : ∀ i, M i < 65536) (hK : K < 65536) (hv : v < 16) (hKv : K.testBit v = true) :
    Calls Tryd.prog 62 #[.pointer (some ⟨bn, 0, none⟩), .int .i64 (v : Int), .int .u32 (K : Int)] w fun e w' => e = .returned (.int .u32 (reachN (nearM M) (bitS K) v : Int)) ∧ Below w.heap.size w w' := by
  have hbn : bn < w.heap.size := block_lt_of_cell h.1
  refine calls_marks Tryd.func62 rfl ?_
  simp only [Tryd.ntmps62, List.size_toArray, List.length_cons, List.length_nil, Nat.reduceAdd, Nat.reduceSub, Array.replicate_succ, Array.replicate_zero, List.push_toArray, List.append_toArray, List.nil_append, List.cons_append]
  go_wp2_with (go_at_call 27; refine (visits_any _ _ _ _).mono ?_; rintro e w' ⟨rfl, rfl⟩)
  obtain ⟨w5, hw5⟩ : ∃ w5, (((w.alloc (.cells #[.int .u32 0] 44)).alloc (.cells #[.pointer (some ⟨bn, 0, none⟩)] 80)).alloc (.cells #[.int .i64 (v : Int)] 2)).alloc (.cells #[.int .u32 (K : Int)] 44) = w5 := ⟨_, rfl⟩
  have hb5 : Below w.heap.size w w5 := by rw [← hw5]; exact ((((Below.refl _ _).alloc (Nat.le_refl _) _).alloc (by simp) _).alloc (by simp; omega) _).alloc (by simp; omega) _
  have hs5 : w5.heap.size = w.heap.size + 4 := by rw [← hw5]; simp
  have HV : Hid (VisIn w5 (w.heap.size + 2) (w.heap.size + 3) (w.heap.size + 1) bn n M v K) := by
    refine ⟨?_, ?_, ?_, h.keep hb5⟩
    · subst hw5; go_simp
    · subst hw5; go_simp
    · subst hw5; go_simp
  have HR5 : Hid (w5.rowIs w.heap.size 44 1 (fun _ => .int .u32 (gotN [] : Int))) := by
    have h1 : (w.alloc (.cells #[.int .u32 0] 44)).rowIs w.heap.size 44 1 (fun _ => .int .u32 (gotN [] : Int)) := World.rowIs_alloc _ _ _ _ (fun i hi => by simp at hi; subst hi; rfl)
    refine h1.of_block ?_
    rw [← hw5]
    exact ((((Below.refl (w.heap.size + 1) _).alloc (by simp) _).alloc (by simp) _).alloc (by simp <;> omega) _).block _ (by omega)
  have HS := Lib.hid (bitS_lt hK)
  have HSQ := Lib.hid (visits1_seq (fun k => k = w.heap.size) 8 (w.heap.size + 2) (w.heap.size + 3) (w.heap.size + 1) bn n M v K w5 hM hK hv hKv HV.out ⟨by omega, by omega, by omega, by omega⟩ (fun k hk => by rw [hk]; omega))
  have HB5 := Lib.hid hb5
  simp only [Nat.add_assoc, Nat.reduceAdd] at *
  rw [hw5]
  clear hw5 HV hb5 h
  refine (wpIn_wide (n := 9)).1 ?_
  refine wpIn_rangeFunc_vis rfl (by omega) (gf := 63) (lb := #[.pointer (some ⟨w.heap.size + 2, 0, none⟩), .pointer (some ⟨w.heap.size + 3, 0, none⟩), .pointer (some ⟨w.heap.size + 1, 0, none⟩)]) rfl trivial (enters_of Tryd.func63 (by kernel_rfl) rfl)
    HSQ.out (fun k hk => by rw [hk]; omega) (fun _ => rfl)
    (fun pre W => W.rowIs w.heap.size 44 1 (fun _ => .int .u32 (gotN pre : Int)) ∧ gotN pre < 65536 ∧ Below w.heap.size w W)
    (fun _ _ _ => False)
    (fun s A B hs hb => ⟨hs.1.of_block (hb.block _ (by omega)), hs.2.1, hs.2.2.trans (hb.mono (by omega))⟩)
    (fun _ _ _ _ _ h _ => h)
    ⟨HR5.out, by simp [gotN], HB5.out⟩
    ?a1 ?assign ?body ?done ?stop
  case assign =>
    intro l x W K hK
    simp only [encP]
    gi_wp2
    exact hK
  case body =>
    rintro l pre ⟨u, d⟩ W ⟨hr, hgl, hb⟩ hsz ⟨hat, hd16, -⟩
    dsimp only at hat hd16
    have hu : u < 16 := HS.out u (wk_in hat.1)
    have hcc := hr.cell (i := 0) (by omega)
    have hcf := hr.frozen 0
    have HRR := Lib.hid hr
    have HB := Lib.hid hb
    have hg2 : gotN pre ||| 2 ^ u < 65536 := or_lt16 hgl hu
    clear hr hb hat
    gi_wp2_with fail
    refine ⟨trivial, ?_⟩
    refine (CallsIn.inRound l (callsIn_wide.2 (add_any _ _ _ _ _ hcc hcf hgl (by omega) (by omega)))).mono ?_
    rintro e w7 ⟨rfl, hd7⟩
    gi_wp2
    refine ⟨(KeepsBut.setCell (T := fun k => k = w.heap.size) _ _ _ rfl).trans (KeepsBut.below (hd7.below _)), ?_, ?_, (HB.out.setCell (p := ⟨w.heap.size, 0, none⟩) (Nat.le_refl _) _).trans (hd7.below _)⟩
    · refine (rowIs_drawn (HRR.out.set 0 _) hd7).congr (fun j hj => ?_)
      rw [gotN_snoc]
      simp [show j = 0 from by omega]
    · rw [gotN_snoc]; exact hg2
  case done =>
    rintro D ys W rfl ⟨hr, hgl, hb⟩ hD hK
    have hcc := hr.cell (i := 0) (by omega)
    have HRR := Lib.hid hr
    have HB := Lib.hid hb
    have HK := Lib.hid hK
    have hDW : D < W.heap.size := (Array.getElem?_eq_some_iff.1 hK).1
    clear hr hb hK
    go_wp2
    refine ⟨by simp, .inl ⟨_, _, rfl, run_takeDeferred HK.out, ?_⟩⟩
    exact ⟨_, results_tmp rfl _ _ _, by rw [← gotN_all HS.out]; rfl, HB.out.trans (below_put W D _ (by omega) hDW)⟩
  case stop =>
    rintro D c pre W _ h _ _
    exact h.elim

end Go.Proofs.YtnjkhiheapmlmaaDoor
