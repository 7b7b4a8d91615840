/- The texts ER12, ER13, joined. -/
import Derived.Test.YtmfolclpddoplaaQER6
import Derived.Deep.RegionHeld3
import Derived.Shelf.Abstract

/- Walks: the cheapest of those that are left, by how many neighbours are left. -/
namespace Go.Proofs.Ytmfolclpddoplaa
open Go.RowKit Go.Shelf

theorem cmpNaN_any (x : Int) (w : World) : Calls Try.prog 128 #[.int .i64 x] w fun e w' => e = .returned (.bool false) ∧ w = w' := by
  have qx : (x != x) = false := by simp
  go_enter Try.func128, Try.ntmps128
  go_wp2
  go_ret
  exact ⟨rfl, rfl⟩
/-- Which is less. -/
def sgnC (x y : Nat) : Int := if x < y then -1 else if y < x then 1 else 0
set_option maxHeartbeats 2000000 in
theorem cmpNats_any (x y : Nat) (w : World) : Calls Try.prog 102 #[.int .i64 (x : Int), .int .i64 (y : Int)] w fun e w' => e = .returned (.int .i64 (sgnC x y)) ∧ w = w' := by
  go_enter Try.func102, Try.ntmps102
  go_wp2_with fail
  refine (cmpNaN_any x _).mono ?_
  rintro e w' ⟨rfl, rfl⟩
  go_wp2_with fail
  refine (cmpNaN_any y _).mono ?_
  rintro e w' ⟨rfl, rfl⟩
  by_cases h1 : x < y
  · have HE : Hid (sgnC x y = -1) := if_pos h1
    have h1I : (x : Int) < (y : Int) := by omega
    go_wp2
    go_ret
    exact ⟨by rw [HE.out]; rfl, rfl⟩
  · have h1I : ¬ (x : Int) < (y : Int) := by omega
    by_cases h2 : y < x
    · have HE : Hid (sgnC x y = 1) := by show _ = _; unfold sgnC; rw [if_neg h1, if_pos h2]
      have h3 : (x : Int) > (y : Int) := by omega
      go_wp2
      go_ret
      exact ⟨by rw [HE.out]; rfl, rfl⟩
    · have HE : Hid (sgnC x y = 0) := by show _ = _; unfold sgnC; rw [if_neg h1, if_neg h2]
      have h3 : ¬ (x : Int) > (y : Int) := by omega
      go_wp2
      go_ret
      exact ⟨by rw [HE.out]; rfl, rfl⟩

def degF (g : Nat) : Value := .func (.func 60) #[.pointer (some ⟨g, 0, none⟩)] #[]

set_option maxHeartbeats 2000000 in
set_option maxRecDepth 100000 in
theorem cheapD_any (pc g n u v : Nat) (M : Nat → Nat) (zs : List Int) (w : World) (kc : w.cell? ⟨pc, 0, none⟩ = some (.func (.func 60) #[.pointer (some ⟨g, 0, none⟩)] #[])) (h : RemBlk w g n M zs) (hu : u < 16) (hv : v < 16) (hM : ∀ i, M i < 65536) :
    Calls Try.prog 101 #[.int .i64 (u : Int), .int .i64 (v : Int), .pointer (some ⟨pc, 0, none⟩)] w fun e w' => e = .returned (.int .i64 (sgnC (bitsTo (M u) 16) (bitsTo (M v) 16))) ∧ Below w.heap.size w w' := by
  have ec := enters_of Try.func60 (by kernel_rfl) rfl
  have HB0 : Hid (Below w.heap.size w w.drew) := (Below.refl _ _).drew
  have hcu : Hid (∀ z : Later w, Calls Try.prog 60 #[.pointer (some ⟨g, 0, none⟩), .int .i64 (u : Int)] z.at fun e w5 => e = .returned (.int .i64 ((bitsTo (M u) 16 : Nat) : Int)) ∧ ∃ t : Later w, w5 = t.at) :=
    fun z => Calls.later ((remDegree_any g n u M zs _ (h.keep z.bel) hu (hM u)).mono (fun e w' hh => ⟨hh.1, hh.2.below _⟩))
  have hcv : Hid (∀ z : Later w, Calls Try.prog 60 #[.pointer (some ⟨g, 0, none⟩), .int .i64 (v : Int)] z.at fun e w5 => e = .returned (.int .i64 ((bitsTo (M v) 16 : Nat) : Int)) ∧ ∃ t : Later w, w5 = t.at) :=
    fun z => Calls.later ((remDegree_any g n v M zs _ (h.keep z.bel) hv (hM v)).mono (fun e w' hh => ⟨hh.1, hh.2.below _⟩))
  have kl := fun z : Later w => z.cell kc
  obtain ⟨a, ha⟩ : ∃ a, a = bitsTo (M u) 16 := ⟨_, rfl⟩
  obtain ⟨b, hb⟩ : ∃ b, b = bitsTo (M v) 16 := ⟨_, rfl⟩
  rw [← ha] at hcu ⊢
  rw [← hb] at hcv ⊢
  have hcc : Hid (∀ z : Later w, Calls Try.prog 102 #[.int .i64 (a : Int), .int .i64 (b : Int)] z.at fun e w5 => e = .returned (.int .i64 (sgnC a b)) ∧ ∃ t : Later w, w5 = t.at) :=
    fun z => Calls.later ((cmpNats_any a b _).mono (fun e w' hh => ⟨hh.1, by rw [← hh.2]; exact Below.refl _ _⟩))
  clear ha hb h hM
  go_enter Try.func101, Try.ntmps101
  go_wp2_with fail
  refine wp_region_later (by kernel_rfl) (by kernel_rfl) ?_
  repeat (go_big_quiet_step (first | (go_at_call 60; with_reducible first | exact hcu.out _ | exact hcv.out _) | (go_at_call 102; with_reducible exact hcc.out _)))
  refine wpQuiet_nil ?_
  rintro _ ⟨z, rfl⟩
  have HZZ := Lib.hid z.bel
  generalize z.at = w7 at HZZ ⊢
  clear kl hcu hcv hcc kc
  go_wp2
  go_ret
  exact ⟨rfl, HZZ.out⟩

set_option maxHeartbeats 4000000 in
set_option maxRecDepth 100000 in
theorem minDegree_any (pc g n : Nat) (M : Nat → Nat) (zs : List Int) (w : World) (kc : w.cell? ⟨pc, 0, none⟩ = some (.func (.func 60) #[.pointer (some ⟨g, 0, none⟩)] #[])) (h : RemBlk w g n M zs) (hM : ∀ i, M i < 65536) (hz : 0 < zs.length) (hz16 : zs.length ≤ 16) (hzs : ∀ i, i < zs.length → ∃ u : Nat, nth zs i = (u : Int) ∧ u < 16) :
    Calls Try.prog 99 #[.slice (some ⟨g, 17, none⟩) zs.length 16, .func (.func 101) #[] #[.pointer (some ⟨pc, 0, none⟩)]] w fun e w' => e = .returned (.int .i64 (minTo (fun i => bitsTo (M i) 16) zs (zs.length - 1))) ∧ Below w.heap.size w w' := by
  have ec := enters_of Try.func101 (by kernel_rfl) rfl
  have HK : Hid (∀ W, Below w.heap.size w W → W.cell? ⟨pc, 0, none⟩ = some (.func (.func 60) #[.pointer (some ⟨g, 0, none⟩)] #[])) := fun W hb => cell_keep hb kc
  have HR : Hid (∀ W, Below w.heap.size w W → RemBlk W g n M zs) := fun W hb => h.keep hb
  have HM := Lib.hid hM
  have HZ := Lib.hid hzs
  obtain ⟨z0, hz0, hz0l⟩ := hzs 0 hz
  have kz0 : w.cell? ⟨g, 17, none⟩ = some (.int .i64 (nth zs 0)) := h.list (i := 0) hz hz16
  rw [hz0] at kz0
  have hzI : ¬ (zs.length : Int) < 1 := by omega
  have HZ0 := Lib.hid hz0
  clear kc h hM hzs hz0
  go_enter Try.func99, Try.ntmps99
  go_wp2_with fail
  clear kz0
  go_loopw [5, 6] (fun s i wr => ∃ (k m : Nat), 1 ≤ k ∧ k ≤ zs.length ∧ i = .int .i64 k ∧ s = .int .i64 (m : Int) ∧ m < 16 ∧ (m : Int) = minTo (fun i => bitsTo (M i) 16) zs (k - 1) ∧ Below w.heap.size w wr) (fun _ i _ => zs.length - (intOf i).toNat)
  case atStart => exact ⟨1, z0, Nat.le_refl _, hz, rfl, rfl, hz0l, HZ0.out.symm, Below.refl _ _⟩
  case round =>
    obtain ⟨k, m, hk1, hk, rfl, rfl, hm, hmt, hb⟩ := hrel
    have HB := Lib.hid hb
    have HMT := Lib.hid hmt
    have hr := HR.out _ hb
    clear hb hmt
    by_cases hlt : k < zs.length
    · obtain ⟨u, hu, hu16⟩ := HZ.out k hlt
      have kk := hr.list hlt hz16
      rw [hu] at kk
      have hkI : (k : Int) < (zs.length : Int) := by omega
      have HU := Lib.hid hu
      have HC : Hid (Calls Try.prog 101 #[.int .i64 (u : Int), .int .i64 (m : Int), .pointer (some ⟨pc, 0, none⟩)] wr fun e w' => e = .returned (.int .i64 (sgnC (bitsTo (M u) 16) (bitsTo (M m) 16))) ∧ Below wr.heap.size wr w') := cheapD_any pc g n u m M zs wr (HK.out _ HB.out) hr hu16 hm HM.out
      have HT : Hid (minTo (fun i => bitsTo (M i) 16) zs k = if bitsTo (M u) 16 < bitsTo (M m) 16 then (u : Int) else (m : Int)) := by
        show _ = _
        obtain ⟨j, rfl⟩ : ∃ j, k = j + 1 := ⟨k - 1, by omega⟩
        rw [minTo, HU.out]
        have := HMT.out
        rw [Nat.add_sub_cancel] at this
        rw [← this, Int.toNat_natCast, Int.toNat_natCast]
      have HK2 : Hid (∀ W, Below wr.heap.size wr W → W.cell? ⟨g, 17 + k, none⟩ = some (.int .i64 (u : Int))) := fun W hb => cell_keep hb kk
      clear hu hr
      obtain ⟨a, ha⟩ : ∃ a, a = bitsTo (M u) 16 := ⟨_, rfl⟩
      obtain ⟨b, hb⟩ : ∃ b, b = bitsTo (M m) 16 := ⟨_, rfl⟩
      rw [← ha, ← hb] at HC HT
      clear ha hb
      go_wp2_with fail
      refine HC.out.mono ?_
      rintro e w5 ⟨rfl, hb5⟩
      have kk5 := HK2.out _ hb5
      have HB5 : Hid (Below w.heap.size w w5) := HB.out.trans (hb5.mono HB.out.size)
      clear hb5 kk
      by_cases hab : a < b
      · have HE : Hid (minTo (fun i => bitsTo (M i) 16) zs (k + 1 - 1) = (u : Int)) := by show _ = _; rw [Nat.add_sub_cancel, HT.out, if_pos hab]
        rw [show sgnC a b = -1 from if_pos hab]
        go_wp2
        go_roundw
        case rel => exact ⟨k + 1, u, by omega, by omega, by go_num, rfl, hu16, HE.out.symm, HB5.out⟩
        case measure => simp [intOf]; omega
      · have HE : Hid (minTo (fun i => bitsTo (M i) 16) zs (k + 1 - 1) = (m : Int)) := by show _ = _; rw [Nat.add_sub_cancel, HT.out, if_neg hab]
        have hs : ¬ sgnC a b < 0 := by unfold sgnC; rw [if_neg hab]; split <;> omega
        clear kk5
        go_wp2
        go_roundw
        case rel => exact ⟨k + 1, m, by omega, by omega, by go_num, rfl, hm, HE.out.symm, HB5.out⟩
        case measure => simp [intOf]; omega
    · obtain rfl : k = zs.length := by omega
      clear hr
      go_wp2
      go_ret
      exact ⟨by rw [← HMT.out]; rfl, HB.out⟩

end Go.Proofs.Ytmfolclpddoplaa

/- Walks: DegeneracyOf of the program. -/
namespace Go.Proofs.Ytmfolclpddoplaa
open Go.RowKit

set_option maxHeartbeats 2000000 in
set_option maxRecDepth 100000 in
theorem remCheapD_any (g n : Nat) (M : Nat → Nat) (zs : List Int) (w : World) (h : RemBlk w g n M zs) (hM : ∀ i, M i < 65536) (hz : 0 < zs.length) (hz16 : zs.length ≤ 16) (hzs : ∀ i, i < zs.length → ∃ u : Nat, nth zs i = (u : Int) ∧ u < 16) :
    Calls Try.prog 59 #[.pointer (some ⟨g, 0, none⟩), .func (.func 60) #[.pointer (some ⟨g, 0, none⟩)] #[]] w fun e w' => e = .returned (.int .i64 (minTo (fun i => bitsTo (M i) 16) zs (zs.length - 1))) ∧ Below w.heap.size w w' := by
  have hmf : ∀ (fn : Fn) (first cap : Array Value) (w : World), (Instr.makeFunc fn first cap).run Try.prog w = .ok (.func fn first cap) w := fun _ _ _ _ => rfl
  have HB0 : Hid (Below w.heap.size w (w.alloc (.cells #[.func (.func 60) #[.pointer (some ⟨g, 0, none⟩)] #[]] 58))) := (Below.refl _ _).alloc (Nat.le_refl _) _
  have HX0 : Hid (BoxAt (w.alloc (.cells #[.func (.func 60) #[.pointer (some ⟨g, 0, none⟩)] #[]] 58)) w.heap.size (.func (.func 60) #[.pointer (some ⟨g, 0, none⟩)] #[])) := BoxAt.new _ _ _
  have HR := Lib.hid (h.keep HB0.out)
  have HM := Lib.hid hM
  have HZ := Lib.hid hzs
  clear h hM hzs
  go_enter Try.func59, Try.ntmps59
  go_wp2_with fail
  refine (remList_any g n M zs _ HR.out hz16).mono ?_
  rintro e w1 ⟨rfl, hd1⟩
  have HB1 : Hid (Below w.heap.size w w1) := HB0.out.trans ((hd1.below _).mono HB0.out.size)
  have HR1 := Lib.hid (HR.out.drawn hd1)
  have HX1 := Lib.hid (cell_drawn hd1 HX0.out.1)
  clear hd1
  go_wp2_with fail
  refine (minDegree_any w.heap.size g n M zs _ HX1.out HR1.out HM.out hz hz16 HZ.out).mono ?_
  rintro e w2 ⟨rfl, hb2⟩
  have HB2 : Hid (Below w.heap.size w w2) := HB1.out.trans (hb2.mono HB1.out.size)
  clear hb2
  go_wp2
  go_ret
  exact ⟨rfl, HB2.out⟩

def dgnI (L : List (List Int)) : Int := if GraphP L then (dgnTo (adjB L) L.length L.length : Int) else -1

theorem restX_nil (A : Nat → Nat → Bool) : restX A [] = A := by
  funext i j
  unfold restX
  rw [hasB_nil, hasB_nil]; simp
theorem rest_cut (A : Nat → Nat → Bool) (ys : List Int) (v : Nat) : cutA (restX A ys) v = restX A (ys ++ [(v : Int)]) := by
  funext i j
  rw [restX_snoc]; rfl
theorem remL_none {ys : List Int} {n : Nat} (h : OrdP ys n) : (remL (fun v => hasB ys (v : Int)) n).length = 0 := by
  rw [List.length_eq_zero_iff, List.eq_nil_iff_forall_not_mem]
  intro x hx
  obtain ⟨v, hv, hg, rfl⟩ := remL_mem.1 hx
  exact hasB_false.1 hg (ordP_mem h hv)
theorem remL_some {ys : List Int} {n v : Nat} (hv : v < n) (h : (v : Int) ∉ ys) : 0 < (remL (fun v => hasB ys (v : Int)) n).length :=
  List.length_pos_of_mem (remL_mem.2 ⟨v, hv, hasB_false.2 h, rfl⟩)
theorem remL_at (g : Nat → Bool) {n : Nat} (hn : n ≤ 16) : ∀ i, i < (remL g n).length → ∃ u : Nat, nth (remL g n) i = (u : Int) ∧ u < 16 := fun i hi => by
  obtain ⟨u, hu, _, e⟩ := remL_mem.1 (nth_mem hi)
  exact ⟨u, e.symm, by omega⟩
/-- At work: who is left, and the neighbours that are left. -/
structure DgW (w : World) (g n : Nat) (A : Nat → Nat → Bool) (k : Nat) (wr : World) : Prop where
  rem : RemBlk wr g n (fun i => pm (restX A (grL (restC A) n k) i)) (remL (fun v => hasB (grL (restC A) n k) (v : Int)) n)
  bel : Below w.heap.size w wr
  low : w.heap.size ≤ g

set_option maxHeartbeats 4000000 in
set_option maxRecDepth 100000 in
theorem implDegeneracyOf_any (v : Value) (L : List (List Int)) (w : World) (h : GridAt w v L) : Calls Try.prog 17 #[.agg #[v]] w fun e w' => e = .returned (.int .i64 (dgnI L)) ∧ Below w.heap.size w w' := by
  have hmf : ∀ (fn : Fn) (first cap : Array Value) (w : World), (Instr.makeFunc fn first cap).run Try.prog w = .ok (.func fn first cap) w := fun _ _ _ _ => rfl
  obtain ⟨a0, c0, rfl⟩ := h.slice
  have HGK : Hid (∀ w', Below w.heap.size w w' → GridAt w' (.slice a0 L.length c0) L) := fun w' hb => h.keep hb
  have HB0 : Hid (Below w.heap.size w (w.alloc (.cells #[.slice a0 L.length c0] 29))) := (Below.refl _ _).alloc (Nat.le_refl _) _
  clear h
  go_enter Try.func17, Try.ntmps17
  go_wp2_with fail
  refine (netOf_any _ L _ (HGK.out _ HB0.out)).mono ?_
  rintro e w1 ⟨rfl, hb1⟩
  have HB1 : Hid (Below w.heap.size w w1) := HB0.out.trans (hb1.mono HB0.out.size)
  have hz1 := HB1.out.size
  have hnb := netBlk_new w1 0 (fun _ => 0)
  clear hb1 HGK HB0
  by_cases hG : GraphP L
  · have hz := hG.1
    have HREL := Lib.hid (adjB_rel hG)
    have HRM : Hid (∀ i, i < 16 → rowM L i = pm (adjB L i)) := fun i _ => by rw [rowM_pm hG]
    have HF : Hid (dgnI L = (dgnTo (adjB L) L.length L.length : Int)) := if_pos hG
    rw [decide_eq_true hG, netArr_yes hG]
    clear hG
    have hlf16 : L.length ≤ 16 := hz.2
    go_wp2_with (refine wpList_store_net rfl 65 (.tmp 3) (.tmp 11) rfl w1.heap.size L.length (rowM L) rfl rfl Try.sizeNet 0 (fun _ => 0) hnb ?_; intro w2 hp; have HN2 := Lib.hid (hp.net.congr rfl HRM.out); have HB2 : Hid (Below w.heap.size w w2) := (HB1.out.alloc hz1 _).trans (hp.below.mono hz1); clear hp)
    refine (remains_any w1.heap.size L.length _ _ HN2.out hz (fun i => pm_lt _)).mono ?_
    rintro e w3 ⟨lf, rfl, hlf, hb3⟩
    have HB3 : Hid (Below w.heap.size w w3) := HB2.out.trans (hb3.mono HB2.out.size)
    have hnew : (w3.alloc (.cells (remArr 0 (fun _ => 0) (fun _ => 0) 0) 70)).heap[w3.heap.size]? = some (.cells (remArr 0 (fun _ => 0) (fun _ => 0) 0) 70 (0, 0)) := heap_alloc_new _ _
    have HNEW := Lib.hid hnew
    have HLF := Lib.hid hlf
    clear hb3 hlf hnew hnb
    go_wp2_with (refine wpList_store_row rfl 70 (.tmp 6) (.tmp 15) rfl w3.heap.size (remArr L.length (fun i => pm ((adjB L) i)) lf L.length) rfl rfl 70 (remArr 0 (fun _ => 0) (fun _ => 0) 0) HNEW.out Try.sizeRem rfl (remArr_one _ _ _ _) ?_)
    obtain ⟨w5, hw5⟩ : ∃ w5, w5 = (w3.alloc (.cells (remArr 0 (fun _ => 0) (fun _ => 0) 0) 70)).setRow w3.heap.size (remArr L.length (fun i => pm ((adjB L) i)) lf L.length) := ⟨_, rfl⟩
    have hg5 : w5.heap[w3.heap.size]? = some (.cells (remArr L.length (fun i => pm ((adjB L) i)) lf L.length) 70 (0, 0)) := by rw [hw5]; exact setRow_heap _ _ _ _ 70 _ HNEW.out
    have hb5 : Below w3.heap.size w3 w5 := by
      rw [hw5]
      exact ((Below.refl _ _).alloc (Nat.le_refl _) _).trans ⟨rfl, rfl, rfl, by simp [World.setRow], fun k hk => setRow_other _ w3.heap.size k _ (by omega)⟩
    have hs5 : w5.heap.size = w3.heap.size + 1 := by rw [hw5]; simp [World.setRow]
    have HW0 : Hid (DgW w w3.heap.size L.length (adjB L) 0 w5) := by
      refine ⟨⟨lf, ?_, ?_⟩, HB3.out.trans (hb5.mono HB3.out.size), HB3.out.size⟩
      · have e : (remL (fun i => hasB (grL (restC (adjB L)) L.length 0) (i : Int)) L.length) = allL L.length := remL_all L.length
        rw [e, allL_len]
        refine (remArr_row hg5).congr (fun i _ => ?_)
        have : restX (adjB L) (grL (restC (adjB L)) L.length 0) = (adjB L) := restX_nil (adjB L)
        rw [this]
      · intro i hi
        have e : (remL (fun i => hasB (grL (restC (adjB L)) L.length 0) (i : Int)) L.length) = allL L.length := remL_all L.length
        rw [e, allL_len] at hi
        rw [e, HLF.out i hi]
        simp [nth, allL, hi]
    change Code.wp _ _ _ _ (World.setRow (w3.alloc (.cells (remArr 0 (fun _ => 0) (fun _ => 0) 0) 70)) w3.heap.size (remArr L.length (fun i => pm ((adjB L) i)) lf L.length))
    rw [← hw5]
    clear hw5 hg5 hb5 HNEW HLF HB3
    simp only [Act.put]
    go_loopw [5, 7] (fun s _ wr => ∃ k : Nat, k ≤ L.length ∧ s = .int .i64 ((dgnTo (adjB L) L.length k : Nat) : Int) ∧ DgW w w3.heap.size L.length (adjB L) k wr ∧ w3.heap.size < wr.heap.size) (fun _ _ wr => (intOf ((wr.cell? ⟨w3.heap.size, 33, none⟩).getD undef)).toNat)
    case atStart => exact ⟨0, Nat.zero_le _, rfl, HW0.out, by omega⟩
    case round =>
      obtain ⟨k, hk, rfl, hw, hzr⟩ := hrel
      have HW := Lib.hid hw
      have HS : Hid (dgnTo (adjB L) L.length (k + 1) = max (dgnTo (adjB L) L.length k) (restC (adjB L) (grL (restC (adjB L)) L.length k) (bestAt (restC (adjB L)) L.length k))) := rfl
      obtain ⟨ys, hys⟩ : ∃ ys, ys = grL (restC (adjB L)) L.length k := ⟨_, rfl⟩
      obtain ⟨s, hs⟩ : ∃ s, s = dgnTo (adjB L) L.length k := ⟨_, rfl⟩
      have HSS := Lib.hid hs
      have hmany := hw.rem.many
      have HMY : Hid (wr.cell? ⟨w3.heap.size, 33, none⟩ = some (.int .i64 (((remL (fun v => hasB ys (v : Int)) L.length).length : Nat) : Int))) := by show _ = _; rw [hys]; exact hmany
      rw [← hys] at HS hmany
      rw [← hs] at HS ⊢
      have HYS := Lib.hid hys
      by_cases hlt : k < L.length
      · obtain ⟨v, hv, ev, hnew⟩ := grL_best (c := restC (adjB L)) (n := L.length) hlt
        have HBE : Hid (bestAt (restC (adjB L)) L.length k = v) := by show _ = _; unfold bestAt; rw [ev, Int.toNat_natCast]
        have HNX : Hid (grL (restC (adjB L)) L.length (k + 1) = ys ++ [(v : Int)]) := by show _ = _; rw [grL, ev, hys]
        rw [← hys] at ev hnew
        have hv16 : v < 16 := by omega
        have hlen := remL_some hv hnew
        have hl16 : (remL (fun v => hasB ys (v : Int)) L.length).length ≤ 16 := Nat.le_trans (remL_len _ _) hz.2
        have hpos : (((remL (fun v => hasB ys (v : Int)) L.length).length : Nat) : Int) > 0 := by omega
        have HMIN : Hid (minTo (fun i => bitsTo (pm (restX (adjB L) ys i)) 16) (remL (fun v => hasB ys (v : Int)) L.length) ((remL (fun v => hasB ys (v : Int)) L.length).length - 1) = (v : Int)) := by show _ = _; rw [minTo_best _ _ _ hlen]; exact ev
        have HREM : Hid (RemBlk wr w3.heap.size L.length (fun i => pm (restX (adjB L) ys i)) (remL (fun v => hasB ys (v : Int)) L.length)) := by have h := hw.rem; rw [← hys] at h; exact h
        obtain ⟨k0, q1, q2, q3, q4⟩ := remL_off (ys := ys) hv hnew
        have HLL : Hid ((remL (fun i => hasB (ys ++ [(v : Int)]) (i : Int)) L.length).length < (remL (fun v => hasB ys (v : Int)) L.length).length) := by show _ < _; rw [← q4, offL_len q1]; omega
        have HRV : Hid (∀ W, RemBlk W w3.heap.size L.length (fun i => pm (restX (adjB L) ys i)) (remL (fun v => hasB ys (v : Int)) L.length) → Calls Try.prog 61 #[.pointer (some ⟨w3.heap.size, 0, none⟩), .int .i64 (v : Int)] W fun e w' => e = .returned (.tuple #[]) ∧ RemBlk w' w3.heap.size L.length (fun i => pm (cutA (restX (adjB L) ys) v i)) (remL (fun i => hasB (ys ++ [(v : Int)]) (i : Int)) L.length) ∧ Touched w3.heap.size (w3.heap.size + 1) W w') :=
          fun W hW => remRemove_any _ w3.heap.size L.length v k0 (restX (adjB L) ys) _ W hW hl16 q1 q2 q3 (remL_i64 _ hz.2) hv16 (restX_rel HREL.out ys).sym ((restX_rel HREL.out ys).self v) q4
        have HZR := Lib.hid hzr
        have HDG : Hid (restC (adjB L) ys (bestAt (restC (adjB L)) L.length k) = bitsTo (pm (restX (adjB L) ys v)) 16) := by show _ = _; rw [HBE.out]; rfl
        obtain ⟨d, hd⟩ : ∃ d, d = bitsTo (pm (restX (adjB L) ys v)) 16 := ⟨_, rfl⟩
        have HD := Lib.hid hd
        clear hd hs hys hw ev hnew q1 q2 q3 q4 hzr
        go_wp2_with fail
        refine (remCheapD_any w3.heap.size L.length _ _ _ HREM.out (fun i => pm_lt _) hlen hl16 (remL_at _ hz.2)).mono ?_
        rintro e w6 ⟨rfl, hb6⟩
        rw [HMIN.out]
        have HR6 := Lib.hid (HREM.out.keep hb6)
        have HB6 : Hid (Below w.heap.size w w6) := HW.out.bel.trans (hb6.mono HW.out.bel.size)
        have HZ6 : Hid (w3.heap.size < w6.heap.size) := Nat.lt_of_lt_of_le HZR.out hb6.size
        clear hb6 hmany hpos
        go_wp2_with fail
        refine (remDegree_any w3.heap.size L.length v _ _ _ HR6.out hv16 (pm_lt _)).mono ?_
        rintro e w7 ⟨rfl, hd7⟩
        rw [← HD.out]
        have HR7 := Lib.hid (HR6.out.drawn hd7)
        have HB7 : Hid (Below w.heap.size w w7) := HB6.out.trans ((hd7.below _).mono HB6.out.size)
        have HZ7 : Hid (w3.heap.size < w7.heap.size) := Nat.lt_of_lt_of_le HZ6.out (hd7.below 0).size
        clear hd7
        go_wp2_with fail
        all_goals (
          refine (HRV.out _ HR7.out).mono ?_
          rintro e w8 ⟨rfl, hr8, ht8⟩
          have HR8 := Lib.hid hr8
          have HB8 : Hid (Below w.heap.size w w8) := HB7.out.trans ((ht8.below (by have := HZ7.out; omega)).mono HW.out.low)
          have HZ8 : Hid (w3.heap.size < w8.heap.size) := Nat.lt_of_lt_of_le HZ7.out ht8.size
          have HM8 := Lib.hid hr8.many
          have HME : Hid ((intOf ((w8.cell? ⟨w3.heap.size, 33, none⟩).getD undef)).toNat < (intOf ((wr.cell? ⟨w3.heap.size, 33, none⟩).getD undef)).toNat) := by
            show _ < _
            rw [HM8.out, HMY.out]
            exact HLL.out
          have HW8 : Hid (DgW w w3.heap.size L.length (adjB L) (k + 1) w8) := by
            refine ⟨?_, HB8.out, HW.out.low⟩
            rw [HNX.out, ← rest_cut]
            exact HR8.out
          clear hr8 ht8
          go_wp2
          go_roundw
          case rel => exact ⟨k + 1, by omega, by rw [HS.out, HDG.out, ← HD.out]; (congr 1; omega), HW8.out, HZ8.out⟩
          case measure => exact HME.out)
      · obtain rfl : k = L.length := by omega
        have h0 : (remL (fun v => hasB ys (v : Int)) L.length).length = 0 := remL_none (by rw [hys]; exact grL_ord _ _)
        rw [h0] at hmany
        clear hs hys hw h0
        go_wp2
        go_ret
        exact ⟨ret_int (by rw [HF.out, HSS.out]), HW.out.bel⟩
  · have HI : Hid (dgnI L = -1) := if_neg hG
    rw [decide_eq_false hG, netArr_no hG]
    clear hG
    go_wp2_with (refine wpList_store_net rfl 65 (.tmp 3) (.tmp 11) rfl w1.heap.size 0 (fun _ => 0) rfl rfl Try.sizeNet 0 (fun _ => 0) hnb ?_; intro w3 hp; have HB3 : Hid (Below w.heap.size w w3) := (HB1.out.alloc hz1 _).trans (hp.below.mono hz1); clear hp)
    go_ret
    exact ⟨ret_int HI.out.symm, HB3.out⟩

end Go.Proofs.Ytmfolclpddoplaa
