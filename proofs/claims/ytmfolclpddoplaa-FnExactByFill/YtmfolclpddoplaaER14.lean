/- Walks: the cheapest of those that are left, by how many edges lack between the neighbours. -/
import Derived.Test.YtmfolclpddoplaaQER12

namespace Go.Proofs.Ytmfolclpddoplaa
open Go.RowKit Go.Shelf

def lackV (W : Nat → Nat → Bool) (v : Nat) : Nat := missN W (listM (pm (W v)))

set_option maxHeartbeats 2000000 in
set_option maxRecDepth 100000 in
theorem cheapL_any (pc g n u v : Nat) (W : Nat → Nat → Bool) (zs : List Int) (w : World) (kc : w.cell? ⟨pc, 0, none⟩ = some (.func (.func 63) #[.pointer (some ⟨g, 0, none⟩)] #[])) (h : RemBlk w g n (fun i => pm (W i)) zs) (hu : u < 16) (hv : v < 16) (hs : ∀ i j, W i j = W j i) :
    Calls Try.prog 101 #[.int .i64 (u : Int), .int .i64 (v : Int), .pointer (some ⟨pc, 0, none⟩)] w fun e w' => e = .returned (.int .i64 (sgnC (lackV W u) (lackV W v))) ∧ Below w.heap.size w w' := by
  have ec := enters_of Try.func63 (by kernel_rfl) rfl
  have HB0 : Hid (Below w.heap.size w w.drew) := (Below.refl _ _).drew
  have hcu : Hid (∀ z : Later w, Calls Try.prog 63 #[.pointer (some ⟨g, 0, none⟩), .int .i64 (u : Int)] z.at fun e w5 => e = .returned (.int .i64 ((lackV W u : Nat) : Int)) ∧ ∃ t : Later w, w5 = t.at) :=
    fun z => Calls.later (remLack_any g n u W zs _ (h.keep z.bel) hu hs)
  have hcv : Hid (∀ z : Later w, Calls Try.prog 63 #[.pointer (some ⟨g, 0, none⟩), .int .i64 (v : Int)] z.at fun e w5 => e = .returned (.int .i64 ((lackV W v : Nat) : Int)) ∧ ∃ t : Later w, w5 = t.at) :=
    fun z => Calls.later (remLack_any g n v W zs _ (h.keep z.bel) hv hs)
  have kl := fun z : Later w => z.cell kc
  obtain ⟨a, ha⟩ : ∃ a, a = lackV W u := ⟨_, rfl⟩
  obtain ⟨b, hb⟩ : ∃ b, b = lackV W v := ⟨_, rfl⟩
  rw [← ha] at hcu ⊢
  rw [← hb] at hcv ⊢
  have hcc : Hid (∀ z : Later w, Calls Try.prog 102 #[.int .i64 (a : Int), .int .i64 (b : Int)] z.at fun e w5 => e = .returned (.int .i64 (sgnC a b)) ∧ ∃ t : Later w, w5 = t.at) :=
    fun z => Calls.later ((cmpNats_any a b _).mono (fun e w' hh => ⟨hh.1, by rw [← hh.2]; exact Below.refl _ _⟩))
  clear ha hb h hs
  go_enter Try.func101, Try.ntmps101
  go_wp2_with fail
  refine wp_region_later (by kernel_rfl) (by kernel_rfl) ?_
  repeat (go_big_quiet_step (first | (go_at_call 63; with_reducible first | exact hcu.out _ | exact hcv.out _) | (go_at_call 102; with_reducible exact hcc.out _)))
  refine wpQuiet_nil ?_
  rintro _ ⟨z, rfl⟩
  have HZZ := Lib.hid z.bel
  generalize z.at = w7 at HZZ ⊢
  clear kl hcu hcv hcc kc
  go_wp2
  go_ret
  exact ⟨rfl, HZZ.out⟩

set_option maxHeartbeats 4000000 in
set_option maxRecDepth 100000 in
theorem minLack_any (pc g n : Nat) (W : Nat → Nat → Bool) (zs : List Int) (w : World) (kc : w.cell? ⟨pc, 0, none⟩ = some (.func (.func 63) #[.pointer (some ⟨g, 0, none⟩)] #[])) (h : RemBlk w g n (fun i => pm (W i)) zs) (hs : ∀ i j, W i j = W j i) (hz : 0 < zs.length) (hz16 : zs.length ≤ 16) (hzs : ∀ i, i < zs.length → ∃ u : Nat, nth zs i = (u : Int) ∧ u < 16) :
    Calls Try.prog 99 #[.slice (some ⟨g, 17, none⟩) zs.length 16, .func (.func 101) #[] #[.pointer (some ⟨pc, 0, none⟩)]] w fun e w' => e = .returned (.int .i64 (minTo (fun i => lackV W i) zs (zs.length - 1))) ∧ Below w.heap.size w w' := by
  have ec := enters_of Try.func101 (by kernel_rfl) rfl
  have HK : Hid (∀ V, Below w.heap.size w V → V.cell? ⟨pc, 0, none⟩ = some (.func (.func 63) #[.pointer (some ⟨g, 0, none⟩)] #[])) := fun V hb => cell_keep hb kc
  have HR : Hid (∀ V, Below w.heap.size w V → RemBlk V g n (fun i => pm (W i)) zs) := fun V hb => h.keep hb
  have HM := Lib.hid hs
  have HZ := Lib.hid hzs
  obtain ⟨z0, hz0, hz0l⟩ := hzs 0 hz
  have kz0 : w.cell? ⟨g, 17, none⟩ = some (.int .i64 (nth zs 0)) := h.list (i := 0) hz hz16
  rw [hz0] at kz0
  have hzI : ¬ (zs.length : Int) < 1 := by omega
  have HZ0 := Lib.hid hz0
  clear kc h hs hzs hz0
  go_enter Try.func99, Try.ntmps99
  go_wp2_with fail
  clear kz0
  go_loopw [5, 6] (fun s i wr => ∃ (k m : Nat), 1 ≤ k ∧ k ≤ zs.length ∧ i = .int .i64 k ∧ s = .int .i64 (m : Int) ∧ m < 16 ∧ (m : Int) = minTo (fun i => lackV W i) zs (k - 1) ∧ Below w.heap.size w wr) (fun _ i _ => zs.length - (intOf i).toNat)
  case atStart => exact ⟨1, z0, Nat.le_refl _, hz, rfl, rfl, hz0l, HZ0.out.symm, Below.refl _ _⟩
  case round =>
    obtain ⟨k, m, hk1, hk, rfl, rfl, hm, hmt, hb⟩ := hrel
    have HB := Lib.hid hb
    have HMT := Lib.hid hmt
    have hr := HR.out _ hb
    clear hb hmt
    by_cases hlt : k < zs.length
    · obtain ⟨u, hu, hu16⟩ := HZ.out k hlt
      have kk := hr.list hlt hz16
      rw [hu] at kk
      have hkI : (k : Int) < (zs.length : Int) := by omega
      have HU := Lib.hid hu
      have HC : Hid (Calls Try.prog 101 #[.int .i64 (u : Int), .int .i64 (m : Int), .pointer (some ⟨pc, 0, none⟩)] wr fun e w' => e = .returned (.int .i64 (sgnC (lackV W u) (lackV W m))) ∧ Below wr.heap.size wr w') := cheapL_any pc g n u m W zs wr (HK.out _ HB.out) hr hu16 hm HM.out
      have HT : Hid (minTo (fun i => lackV W i) zs k = if lackV W u < lackV W m then (u : Int) else (m : Int)) := by
        show _ = _
        obtain ⟨j, rfl⟩ : ∃ j, k = j + 1 := ⟨k - 1, by omega⟩
        rw [minTo, HU.out]
        have := HMT.out
        rw [Nat.add_sub_cancel] at this
        rw [← this, Int.toNat_natCast, Int.toNat_natCast]
      have HK2 : Hid (∀ V, Below wr.heap.size wr V → V.cell? ⟨g, 17 + k, none⟩ = some (.int .i64 (u : Int))) := fun V hb => cell_keep hb kk
      clear hu hr
      obtain ⟨a, ha⟩ : ∃ a, a = lackV W u := ⟨_, rfl⟩
      obtain ⟨b, hb⟩ : ∃ b, b = lackV W m := ⟨_, rfl⟩
      rw [← ha, ← hb] at HC HT
      clear ha hb
      go_wp2_with fail
      refine HC.out.mono ?_
      rintro e w5 ⟨rfl, hb5⟩
      have kk5 := HK2.out _ hb5
      have HB5 : Hid (Below w.heap.size w w5) := HB.out.trans (hb5.mono HB.out.size)
      clear hb5 kk
      by_cases hab : a < b
      · have HE : Hid (minTo (fun i => lackV W i) zs (k + 1 - 1) = (u : Int)) := by show _ = _; rw [Nat.add_sub_cancel, HT.out, if_pos hab]
        rw [show sgnC a b = -1 from if_pos hab]
        go_wp2
        go_roundw
        case rel => exact ⟨k + 1, u, by omega, by omega, by go_num, rfl, hu16, HE.out.symm, HB5.out⟩
        case measure => simp [intOf]; omega
      · have HE : Hid (minTo (fun i => lackV W i) zs (k + 1 - 1) = (m : Int)) := by show _ = _; rw [Nat.add_sub_cancel, HT.out, if_neg hab]
        have hs : ¬ sgnC a b < 0 := by unfold sgnC; rw [if_neg hab]; split <;> omega
        clear kk5
        go_wp2
        go_roundw
        case rel => exact ⟨k + 1, m, by omega, by omega, by go_num, rfl, hm, HE.out.symm, HB5.out⟩
        case measure => simp [intOf]; omega
    · obtain rfl : k = zs.length := by omega
      clear hr
      go_wp2
      go_ret
      exact ⟨by rw [← HMT.out]; rfl, HB.out⟩

set_option maxHeartbeats 2000000 in
set_option maxRecDepth 100000 in
theorem remCheapL_any (g n : Nat) (W : Nat → Nat → Bool) (zs : List Int) (w : World) (h : RemBlk w g n (fun i => pm (W i)) zs) (hs : ∀ i j, W i j = W j i) (hz : 0 < zs.length) (hz16 : zs.length ≤ 16) (hzs : ∀ i, i < zs.length → ∃ u : Nat, nth zs i = (u : Int) ∧ u < 16) :
    Calls Try.prog 59 #[.pointer (some ⟨g, 0, none⟩), .func (.func 63) #[.pointer (some ⟨g, 0, none⟩)] #[]] w fun e w' => e = .returned (.int .i64 (minTo (fun i => lackV W i) zs (zs.length - 1))) ∧ Below w.heap.size w w' := by
  have hmf : ∀ (fn : Fn) (first cap : Array Value) (w : World), (Instr.makeFunc fn first cap).run Try.prog w = .ok (.func fn first cap) w := fun _ _ _ _ => rfl
  have HB0 : Hid (Below w.heap.size w (w.alloc (.cells #[.func (.func 63) #[.pointer (some ⟨g, 0, none⟩)] #[]] 58))) := (Below.refl _ _).alloc (Nat.le_refl _) _
  have HX0 : Hid (BoxAt (w.alloc (.cells #[.func (.func 63) #[.pointer (some ⟨g, 0, none⟩)] #[]] 58)) w.heap.size (.func (.func 63) #[.pointer (some ⟨g, 0, none⟩)] #[])) := BoxAt.new _ _ _
  have HR := Lib.hid (h.keep HB0.out)
  have HM := Lib.hid hs
  have HZ := Lib.hid hzs
  clear h hs hzs
  go_enter Try.func59, Try.ntmps59
  go_wp2_with fail
  refine (remList_any g n (fun i => pm (W i)) zs _ HR.out hz16).mono ?_
  rintro e w1 ⟨rfl, hd1⟩
  have HB1 : Hid (Below w.heap.size w w1) := HB0.out.trans ((hd1.below _).mono HB0.out.size)
  have HR1 := Lib.hid (HR.out.drawn hd1)
  have HX1 := Lib.hid (cell_drawn hd1 HX0.out.1)
  clear hd1
  go_wp2_with fail
  refine (minLack_any w.heap.size g n W zs _ HX1.out HR1.out HM.out hz hz16 HZ.out).mono ?_
  rintro e w2 ⟨rfl, hb2⟩
  have HB2 : Hid (Below w.heap.size w w2) := HB1.out.trans (hb2.mono HB1.out.size)
  clear hb2
  go_wp2
  go_ret
  exact ⟨rfl, HB2.out⟩

end Go.Proofs.Ytmfolclpddoplaa
