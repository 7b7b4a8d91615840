/- The texts EM3, EN9, joined. -/
import Derived.Test.YtojbaepcflkgeaaEM2
import Derived.Test.YtojbaepcflkgeaaQEN5
import Derived.Test.YtojbaepcflkgeaaQB4

/- Walks: small graphs; the model's EmbedsIn, AlikeIn, FreeOf. -/
namespace Go.Proofs.Ytojbaepcflkgeaa
open Go.RowKit

/-- At most eight vertices. -/
def SmallP (L : List (List Int)) : Prop := GraphP L ∧ L.length ≤ 8
instance (L : List (List Int)) : Decidable (SmallP L) := by unfold SmallP; infer_instance
/-- The lists by which Lg stands for Lp. -/
def stands (Lp Lg : List (List Int)) : List (List Int) := fitsL (adjB Lp) Lp.length Lg.length (adjB Lg)
def embL (Lp Lg : List (List Int)) : List Int := if SmallP Lp ∧ GraphP Lg then firstL (stands Lp Lg) else []
def embB (Lp Lg : List (List Int)) : Bool := decide (SmallP Lp ∧ GraphP Lg ∧ stands Lp Lg ≠ [])
def freeB (Lg Lp : List (List Int)) : Bool := decide (GraphP Lg ∧ SmallP Lp ∧ stands Lp Lg = [])
def alL (La Lb : List (List Int)) : List Int := if SmallP La ∧ SmallP Lb ∧ La.length = Lb.length then firstL (stands Lb La) else []
def alB (La Lb : List (List Int)) : Bool := decide (SmallP La ∧ SmallP Lb ∧ La.length = Lb.length ∧ stands Lb La ≠ [])
theorem stands_len {Lp Lg : List (List Int)} {y : List Int} (h : y ∈ stands Lp Lg) : y.length = Lp.length := by have := enum_len h; simpa using this
theorem first_len {Lp Lg : List (List Int)} : (firstL (stands Lp Lg)).length ≤ Lp.length := by
  by_cases h : stands Lp Lg = []
  · rw [h]; simp [firstL]
  · rw [stands_len (firstL_mem h)]; exact Nat.le_refl _
theorem first_pos {Lp Lg : List (List Int)} (hp : 1 ≤ Lp.length) : decide ((0 : Int) < ((firstL (stands Lp Lg)).length : Int)) = decide (stands Lp Lg ≠ []) := by
  by_cases h : stands Lp Lg = []
  · rw [decide_eq_false (p := stands Lp Lg ≠ []) (fun hn => hn h), h]; simp [firstL]
  · rw [decide_eq_true (p := stands Lp Lg ≠ []) h, decide_eq_true_iff, stands_len (firstL_mem h)]; omega
theorem embL_small (Lp Lg : List (List Int)) : (embL Lp Lg).length ≤ 1048576 := by
  unfold embL
  split
  · rename_i h; have := first_len (Lp := Lp) (Lg := Lg); have := h.1.2; omega
  · simp
theorem alL_small (La Lb : List (List Int)) : (alL La Lb).length ≤ 1048576 := by
  unfold alL
  split
  · rename_i h; have := first_len (Lp := Lb) (Lg := La); have := h.2.1.2; omega
  · simp

theorem empty_own (w : World) (B : Nat) (hB : B ≤ w.heap.size) : OwnRow 2 (w.alloc (.cells #[] 2)) B (.slice (some ⟨w.heap.size, 0, none⟩) 0 0) [] :=
  ⟨by simp, by simp, .inr ⟨w.heap.size, 0, #[], rfl, hB, heap_alloc_new w _, Nat.zero_le _, Nat.zero_le _, rfl, fun i hi => absurd hi (by simp)⟩⟩

end Go.Proofs.Ytojbaepcflkgeaa

/- Walks: the net of a small graph; EmbedsIn, FreeOf, AlikeIn of the program. -/
namespace Go.Proofs.Ytojbaepcflkgeaa
open Go.RowKit

def smN (L : List (List Int)) : Nat := if SmallP L then L.length else 0
def smM (L : List (List Int)) (i : Nat) : Nat := if SmallP L then rowM L i else 0
theorem smArr_yes {L : List (List Int)} (h : SmallP L) : netArr (smN L) (smM L) = netArr L.length (rowM L) := netArr_congr (if_pos h) (fun i _ => if_pos h)
theorem smArr_no {L : List (List Int)} (h : ¬ SmallP L) : netArr (smN L) (smM L) = netArr 0 (fun _ => 0) := netArr_congr (if_neg h) (fun i _ => if_neg h)
/-- What smallNet hands back. -/
def GaveSm (w : World) (L : List (List Int)) (e : Ending) (w' : World) : Prop :=
  e = .returned (.tuple #[.agg (netArr (smN L) (smM L)), .bool (decide (SmallP L))]) ∧ Below w.heap.size w w'
theorem smRet {L : List (List Int)} {w w' : World} {act : Act} (n : Nat) (M : Nat → Nat) (ok : Bool) (g : Nat) (hp : act.tmps.getD 2 undef = .pointer (some ⟨g, 0, none⟩)) (ho : act.tmps.getD 3 undef = .bool ok) (hg : NetBlk 65 w' g n M)
    (hd : act.defers = []) (hpost : GaveSm w L (.returned (.tuple #[.agg (netArr n M), .bool ok])) w') : bodyPost Try.prog Try.f57 (GaveSm w L) Exit.ret act w' := by
  refine bodyPost_ret (v := .tuple #[.agg (netArr n M), .bool ok]) ?_ hd hpost
  rw [results_net Try.results57 act.tmps w' g n M _ hp hg Try.sizeNet Try.underlying65 rfl, ho]
theorem NetBlk.by {T : TypeId} {w w' : World} {g n : Nat} {M : Nat → Nat} {k n' : Nat} {M' : Nat → Nat} (h : NetBlk T w g n M) (hp : NetPut T w w' k n' M') (hne : g ≠ k) : NetBlk T w' g n M := by
  unfold NetBlk; rw [hp.other g hne]; exact h

set_option maxHeartbeats 2000000 in
set_option maxRecDepth 100000 in
theorem smallNet_any (v : Value) (L : List (List Int)) (w : World) (h : GridAt w v L) : Calls Try.prog 57 #[.agg #[v]] w (GaveSm w L) := by
  obtain ⟨a0, c0, rfl⟩ := h.slice
  have hl := h.len
  unfold maxLen at hl
  obtain ⟨w0, hw0⟩ : ∃ w0, (w.alloc (.cells #[.slice a0 L.length c0] 30)).alloc (.cells (netArr 0 (fun _ => 0)) 65) = w0 := ⟨_, rfl⟩
  have ha : Below w.heap.size w w0 := by rw [← hw0]; exact ((Below.refl _ _).alloc (Nat.le_refl _) _).alloc (by simp) _
  have hs0 : w0.heap.size = w.heap.size + 2 := by rw [← hw0]; simp
  have hr0 : NetBlk 65 w0 (w.heap.size + 1) 0 (fun _ => 0) := by
    rw [← hw0]
    have := netBlk_new (w.alloc (.cells #[.slice a0 L.length c0] 30)) 0 (fun _ => 0)
    rwa [size_alloc1] at this
  have HW0 := Lib.hid hw0
  have HG0 := Lib.hid (h.keep ha)
  have HA := Lib.hid ha
  have HR0 := Lib.hid hr0
  have HS0 := Lib.hid hs0
  clear h ha hr0 hs0 hw0
  go_enter Try.func57, Try.ntmps57
  go_wp2_with fail
  change Calls _ _ _ ((w.alloc (.cells #[.slice a0 L.length c0] 30)).alloc (.cells (netArr 0 (fun _ => 0)) 65)) _
  rw [HW0.out]
  refine (netOf_any _ _ _ HG0.out).mono ?_
  rintro e w1 ⟨rfl, hb1⟩
  have hz1 : w.heap.size + 2 ≤ w1.heap.size := by have := hb1.size; have := HS0.out; omega
  have HB1 : Hid (Below w.heap.size w w1) := HA.out.trans (hb1.mono HA.out.size)
  have HR1 := Lib.hid (HR0.out.keep hb1)
  have hnb := netBlk_new w1 0 (fun _ => 0)
  have HR1A : Hid (NetBlk 65 (w1.alloc (.cells (netArr 0 (fun _ => 0)) 65)) (w.heap.size + 1) 0 (fun _ => 0)) := HR1.out.keep ((Below.refl _ _).alloc (Nat.le_refl _) _)
  clear hb1 HR0 HR1
  by_cases hG : GraphP L
  · rw [decide_eq_true hG, netArr_yes hG]
    have HG := Lib.hid hG
    clear hG
    by_cases h8 : L.length ≤ 8
    · have HSM : Hid (SmallP L) := ⟨HG.out, h8⟩
      go_wp2_with (first | (refine wpList_store_net rfl 65 (.tmp 4) (.tmp 9) rfl w1.heap.size L.length (rowM L) rfl rfl Try.sizeNet 0 (fun _ => 0) hnb ?_; intro w3 hp3; have hn0 := hp3.net.at.1; have hn3 := hp3.net; have hr3 := HR1A.out.by hp3 (by omega); have HB3 : Hid (Below w.heap.size w w3) := (HB1.out.alloc HB1.out.size _).trans (hp3.below.mono HB1.out.size); clear hp3) | (refine wpList_load_net rfl 65 (.tmp 4) rfl w1.heap.size L.length (rowM L) rfl Try.sizeNet _ Try.underlying65 rfl hn3 ?_) | (refine wpList_store_net rfl 65 (.tmp 2) (.tmp 19) rfl (w.heap.size + 1) L.length (rowM L) rfl rfl Try.sizeNet 0 (fun _ => 0) hr3 ?_; intro w5 hp5; have HN5 := Lib.hid hp5.net; have HB5 : Hid (Below w.heap.size w w5) := HB3.out.trans (hp5.below.mono (by omega)); clear hp5))
      refine smRet L.length (rowM L) true (w.heap.size + 1) rfl rfl HN5.out rfl ⟨?_, HB5.out⟩
      rw [smArr_yes HSM.out, decide_eq_true HSM.out]
    · have HSM : Hid (¬ SmallP L) := fun h => h8 h.2
      have h8' : (8 : Int) < (L.length : Int) := by omega
      clear h8
      go_wp2_with (first | (refine wpList_store_net rfl 65 (.tmp 4) (.tmp 9) rfl w1.heap.size L.length (rowM L) rfl rfl Try.sizeNet 0 (fun _ => 0) hnb ?_; intro w3 hp3; have hn0 := hp3.net.at.1; have hr3 := HR1A.out.by hp3 (by omega); have HB3 : Hid (Below w.heap.size w w3) := (HB1.out.alloc HB1.out.size _).trans (hp3.below.mono HB1.out.size); clear hp3) | (refine wpList_store_net rfl 65 (.tmp 2) (.tmp 18) rfl (w.heap.size + 1) 0 (fun _ => 0) rfl rfl Try.sizeNet 0 (fun _ => 0) hr3 ?_; intro w5 hp5; have HN5 := Lib.hid hp5.net; have HB5 : Hid (Below w.heap.size w w5) := HB3.out.trans (hp5.below.mono (by omega)); clear hp5))
      refine smRet 0 (fun _ => 0) false (w.heap.size + 1) rfl rfl HN5.out rfl ⟨?_, HB5.out⟩
      rw [smArr_no HSM.out, decide_eq_false HSM.out]
  · rw [decide_eq_false hG, netArr_no hG]
    have HSM : Hid (¬ SmallP L) := fun h => hG h.1
    clear hG
    go_wp2_with (first | (refine wpList_store_net rfl 65 (.tmp 4) (.tmp 9) rfl w1.heap.size 0 (fun _ => 0) rfl rfl Try.sizeNet 0 (fun _ => 0) hnb ?_; intro w3 hp3; have hr3 := HR1A.out.by hp3 (by omega); have HB3 : Hid (Below w.heap.size w w3) := (HB1.out.alloc HB1.out.size _).trans (hp3.below.mono HB1.out.size); clear hp3) | (refine wpList_store_net rfl 65 (.tmp 2) (.tmp 18) rfl (w.heap.size + 1) 0 (fun _ => 0) rfl rfl Try.sizeNet 0 (fun _ => 0) hr3 ?_; intro w5 hp5; have HN5 := Lib.hid hp5.net; have HB5 : Hid (Below w.heap.size w w5) := HB3.out.trans (hp5.below.mono (by omega)); clear hp5))
    refine smRet 0 (fun _ => 0) false (w.heap.size + 1) rfl rfl HN5.out rfl ⟨?_, HB5.out⟩
    rw [smArr_no HSM.out, decide_eq_false HSM.out]

end Go.Proofs.Ytojbaepcflkgeaa
