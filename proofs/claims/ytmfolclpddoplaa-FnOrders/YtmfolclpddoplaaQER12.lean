/- The texts ER12, ER13, EG6, joined. -/
import Derived.Test.YtmfolclpddoplaaQER6
import Derived.Deep.RegionHeld3
import Derived.Shelf.Abstract
import Derived.Test.YtmfolclpddoplaaQEL4
import Derived.Test.YtmfolclpddoplaaQEL1

/- Walks: the cheapest of those that are left, by how many neighbours are left. -/
namespace Go.Proofs.Ytmfolclpddoplaa
open Go.RowKit Go.Shelf

theorem cmpNaN_any (x : Int) (w : World) : Calls Try.prog 128 #[.int .i64 x] w fun e w' => e = .returned (.bool false) ∧ w = w' := by
  have qx : (x != x) = false := by simp
  go_enter Try.func128, Try.ntmps128
  go_wp2
  go_ret
  exact ⟨rfl, rfl⟩
/-- Which is less. -/
def sgnC (x y : Nat) : Int := if x < y then -1 else if y < x then 1 else 0
set_option maxHeartbeats 2000000 in
theorem cmpNats_any (x y : Nat) (w : World) : Calls Try.prog 102 #[.int .i64 (x : Int), .int .i64 (y : Int)] w fun e w' => e = .returned (.int .i64 (sgnC x y)) ∧ w = w' := by
  go_enter Try.func102, Try.ntmps102
  go_wp2_with fail
  refine (cmpNaN_any x _).mono ?_
  rintro e w' ⟨rfl, rfl⟩
  go_wp2_with fail
  refine (cmpNaN_any y _).mono ?_
  rintro e w' ⟨rfl, rfl⟩
  by_cases h1 : x < y
  · have HE : Hid (sgnC x y = -1) := if_pos h1
    have h1I : (x : Int) < (y : Int) := by omega
    go_wp2
    go_ret
    exact ⟨by rw [HE.out]; rfl, rfl⟩
  · have h1I : ¬ (x : Int) < (y : Int) := by omega
    by_cases h2 : y < x
    · have HE : Hid (sgnC x y = 1) := by show _ = _; unfold sgnC; rw [if_neg h1, if_pos h2]
      have h3 : (x : Int) > (y : Int) := by omega
      go_wp2
      go_ret
      exact ⟨by rw [HE.out]; rfl, rfl⟩
    · have HE : Hid (sgnC x y = 0) := by show _ = _; unfold sgnC; rw [if_neg h1, if_neg h2]
      have h3 : ¬ (x : Int) > (y : Int) := by omega
      go_wp2
      go_ret
      exact ⟨by rw [HE.out]; rfl, rfl⟩

def degF (g : Nat) : Value := .func (.func 60) #[.pointer (some ⟨g, 0, none⟩)] #[]

set_option maxHeartbeats 2000000 in
set_option maxRecDepth 100000 in
theorem cheapD_any (pc g n u v : Nat) (M : Nat → Nat) (zs : List Int) (w : World) (kc : w.cell? ⟨pc, 0, none⟩ = some (.func (.func 60) #[.pointer (some ⟨g, 0, none⟩)] #[])) (h : RemBlk w g n M zs) (hu : u < 16) (hv : v < 16) (hM : ∀ i, M i < 65536) :
    Calls Try.prog 101 #[.int .i64 (u : Int), .int .i64 (v : Int), .pointer (some ⟨pc, 0, none⟩)] w fun e w' => e = .returned (.int .i64 (sgnC (bitsTo (M u) 16) (bitsTo (M v) 16))) ∧ Below w.heap.size w w' := by
  have ec := enters_of Try.func60 (by kernel_rfl) rfl
  have HB0 : Hid (Below w.heap.size w w.drew) := (Below.refl _ _).drew
  have hcu : Hid (∀ z : Later w, Calls Try.prog 60 #[.pointer (some ⟨g, 0, none⟩), .int .i64 (u : Int)] z.at fun e w5 => e = .returned (.int .i64 ((bitsTo (M u) 16 : Nat) : Int)) ∧ ∃ t : Later w, w5 = t.at) :=
    fun z => Calls.later ((remDegree_any g n u M zs _ (h.keep z.bel) hu (hM u)).mono (fun e w' hh => ⟨hh.1, hh.2.below _⟩))
  have hcv : Hid (∀ z : Later w, Calls Try.prog 60 #[.pointer (some ⟨g, 0, none⟩), .int .i64 (v : Int)] z.at fun e w5 => e = .returned (.int .i64 ((bitsTo (M v) 16 : Nat) : Int)) ∧ ∃ t : Later w, w5 = t.at) :=
    fun z => Calls.later ((remDegree_any g n v M zs _ (h.keep z.bel) hv (hM v)).mono (fun e w' hh => ⟨hh.1, hh.2.below _⟩))
  have kl := fun z : Later w => z.cell kc
  obtain ⟨a, ha⟩ : ∃ a, a = bitsTo (M u) 16 := ⟨_, rfl⟩
  obtain ⟨b, hb⟩ : ∃ b, b = bitsTo (M v) 16 := ⟨_, rfl⟩
  rw [← ha] at hcu ⊢
  rw [← hb] at hcv ⊢
  have hcc : Hid (∀ z : Later w, Calls Try.prog 102 #[.int .i64 (a : Int), .int .i64 (b : Int)] z.at fun e w5 => e = .returned (.int .i64 (sgnC a b)) ∧ ∃ t : Later w, w5 = t.at) :=
    fun z => Calls.later ((cmpNats_any a b _).mono (fun e w' hh => ⟨hh.1, by rw [← hh.2]; exact Below.refl _ _⟩))
  clear ha hb h hM
  go_enter Try.func101, Try.ntmps101
  go_wp2_with fail
  refine wp_region_later (by kernel_rfl) (by kernel_rfl) ?_
  repeat (go_big_quiet_step (first | (go_at_call 60; with_reducible first | exact hcu.out _ | exact hcv.out _) | (go_at_call 102; with_reducible exact hcc.out _)))
  refine wpQuiet_nil ?_
  rintro _ ⟨z, rfl⟩
  have HZZ := Lib.hid z.bel
  generalize z.at = w7 at HZZ ⊢
  clear kl hcu hcv hcc kc
  go_wp2
  go_ret
  exact ⟨rfl, HZZ.out⟩

set_option maxHeartbeats 4000000 in
set_option maxRecDepth 100000 in
theorem minDegree_any (pc g n : Nat) (M : Nat → Nat) (zs : List Int) (w : World) (kc : w.cell? ⟨pc, 0, none⟩ = some (.func (.func 60) #[.pointer (some ⟨g, 0, none⟩)] #[])) (h : RemBlk w g n M zs) (hM : ∀ i, M i < 65536) (hz : 0 < zs.length) (hz16 : zs.length ≤ 16) (hzs : ∀ i, i < zs.length → ∃ u : Nat, nth zs i = (u : Int) ∧ u < 16) :
    Calls Try.prog 99 #[.slice (some ⟨g, 17, none⟩) zs.length 16, .func (.func 101) #[] #[.pointer (some ⟨pc, 0, none⟩)]] w fun e w' => e = .returned (.int .i64 (minTo (fun i => bitsTo (M i) 16) zs (zs.length - 1))) ∧ Below w.heap.size w w' := by
  have ec := enters_of Try.func101 (by kernel_rfl) rfl
  have HK : Hid (∀ W, Below w.heap.size w W → W.cell? ⟨pc, 0, none⟩ = some (.func (.func 60) #[.pointer (some ⟨g, 0, none⟩)] #[])) := fun W hb => cell_keep hb kc
  have HR : Hid (∀ W, Below w.heap.size w W → RemBlk W g n M zs) := fun W hb => h.keep hb
  have HM := Lib.hid hM
  have HZ := Lib.hid hzs
  obtain ⟨z0, hz0, hz0l⟩ := hzs 0 hz
  have kz0 : w.cell? ⟨g, 17, none⟩ = some (.int .i64 (nth zs 0)) := h.list (i := 0) hz hz16
  rw [hz0] at kz0
  have hzI : ¬ (zs.length : Int) < 1 := by omega
  have HZ0 := Lib.hid hz0
  clear kc h hM hzs hz0
  go_enter Try.func99, Try.ntmps99
  go_wp2_with fail
  clear kz0
  go_loopw [5, 6] (fun s i wr => ∃ (k m : Nat), 1 ≤ k ∧ k ≤ zs.length ∧ i = .int .i64 k ∧ s = .int .i64 (m : Int) ∧ m < 16 ∧ (m : Int) = minTo (fun i => bitsTo (M i) 16) zs (k - 1) ∧ Below w.heap.size w wr) (fun _ i _ => zs.length - (intOf i).toNat)
  case atStart => exact ⟨1, z0, Nat.le_refl _, hz, rfl, rfl, hz0l, HZ0.out.symm, Below.refl _ _⟩
  case round =>
    obtain ⟨k, m, hk1, hk, rfl, rfl, hm, hmt, hb⟩ := hrel
    have HB := Lib.hid hb
    have HMT := Lib.hid hmt
    have hr := HR.out _ hb
    clear hb hmt
    by_cases hlt : k < zs.length
    · obtain ⟨u, hu, hu16⟩ := HZ.out k hlt
      have kk := hr.list hlt hz16
      rw [hu] at kk
      have hkI : (k : Int) < (zs.length : Int) := by omega
      have HU := Lib.hid hu
      have HC : Hid (Calls Try.prog 101 #[.int .i64 (u : Int), .int .i64 (m : Int), .pointer (some ⟨pc, 0, none⟩)] wr fun e w' => e = .returned (.int .i64 (sgnC (bitsTo (M u) 16) (bitsTo (M m) 16))) ∧ Below wr.heap.size wr w') := cheapD_any pc g n u m M zs wr (HK.out _ HB.out) hr hu16 hm HM.out
      have HT : Hid (minTo (fun i => bitsTo (M i) 16) zs k = if bitsTo (M u) 16 < bitsTo (M m) 16 then (u : Int) else (m : Int)) := by
        show _ = _
        obtain ⟨j, rfl⟩ : ∃ j, k = j + 1 := ⟨k - 1, by omega⟩
        rw [minTo, HU.out]
        have := HMT.out
        rw [Nat.add_sub_cancel] at this
        rw [← this, Int.toNat_natCast, Int.toNat_natCast]
      have HK2 : Hid (∀ W, Below wr.heap.size wr W → W.cell? ⟨g, 17 + k, none⟩ = some (.int .i64 (u : Int))) := fun W hb => cell_keep hb kk
      clear hu hr
      obtain ⟨a, ha⟩ : ∃ a, a = bitsTo (M u) 16 := ⟨_, rfl⟩
      obtain ⟨b, hb⟩ : ∃ b, b = bitsTo (M m) 16 := ⟨_, rfl⟩
      rw [← ha, ← hb] at HC HT
      clear ha hb
      go_wp2_with fail
      refine HC.out.mono ?_
      rintro e w5 ⟨rfl, hb5⟩
      have kk5 := HK2.out _ hb5
      have HB5 : Hid (Below w.heap.size w w5) := HB.out.trans (hb5.mono HB.out.size)
      clear hb5 kk
      by_cases hab : a < b
      · have HE : Hid (minTo (fun i => bitsTo (M i) 16) zs (k + 1 - 1) = (u : Int)) := by show _ = _; rw [Nat.add_sub_cancel, HT.out, if_pos hab]
        rw [show sgnC a b = -1 from if_pos hab]
        go_wp2
        go_roundw
        case rel => exact ⟨k + 1, u, by omega, by omega, by go_num, rfl, hu16, HE.out.symm, HB5.out⟩
        case measure => simp [intOf]; omega
      · have HE : Hid (minTo (fun i => bitsTo (M i) 16) zs (k + 1 - 1) = (m : Int)) := by show _ = _; rw [Nat.add_sub_cancel, HT.out, if_neg hab]
        have hs : ¬ sgnC a b < 0 := by unfold sgnC; rw [if_neg hab]; split <;> omega
        clear kk5
        go_wp2
        go_roundw
        case rel => exact ⟨k + 1, m, by omega, by omega, by go_num, rfl, hm, HE.out.symm, HB5.out⟩
        case measure => simp [intOf]; omega
    · obtain rfl : k = zs.length := by omega
      clear hr
      go_wp2
      go_ret
      exact ⟨by rw [← HMT.out]; rfl, HB.out⟩

end Go.Proofs.Ytmfolclpddoplaa

/- Walks: DegeneracyOf of the program. -/
namespace Go.Proofs.Ytmfolclpddoplaa
open Go.RowKit

set_option maxHeartbeats 2000000 in
set_option maxRecDepth 100000 in
theorem remCheapD_any (g n : Nat) (M : Nat → Nat) (zs : List Int) (w : World) (h : RemBlk w g n M zs) (hM : ∀ i, M i < 65536) (hz : 0 < zs.length) (hz16 : zs.length ≤ 16) (hzs : ∀ i, i < zs.length → ∃ u : Nat, nth zs i = (u : Int) ∧ u < 16) :
    Calls Try.prog 59 #[.pointer (some ⟨g, 0, none⟩), .func (.func 60) #[.pointer (some ⟨g, 0, none⟩)] #[]] w fun e w' => e = .returned (.int .i64 (minTo (fun i => bitsTo (M i) 16) zs (zs.length - 1))) ∧ Below w.heap.size w w' := by
  have hmf : ∀ (fn : Fn) (first cap : Array Value) (w : World), (Instr.makeFunc fn first cap).run Try.prog w = .ok (.func fn first cap) w := fun _ _ _ _ => rfl
  have HB0 : Hid (Below w.heap.size w (w.alloc (.cells #[.func (.func 60) #[.pointer (some ⟨g, 0, none⟩)] #[]] 58))) := (Below.refl _ _).alloc (Nat.le_refl _) _
  have HX0 : Hid (BoxAt (w.alloc (.cells #[.func (.func 60) #[.pointer (some ⟨g, 0, none⟩)] #[]] 58)) w.heap.size (.func (.func 60) #[.pointer (some ⟨g, 0, none⟩)] #[])) := BoxAt.new _ _ _
  have HR := Lib.hid (h.keep HB0.out)
  have HM := Lib.hid hM
  have HZ := Lib.hid hzs
  clear h hM hzs
  go_enter Try.func59, Try.ntmps59
  go_wp2_with fail
  refine (remList_any g n M zs _ HR.out hz16).mono ?_
  rintro e w1 ⟨rfl, hd1⟩
  have HB1 : Hid (Below w.heap.size w w1) := HB0.out.trans ((hd1.below _).mono HB0.out.size)
  have HR1 := Lib.hid (HR.out.drawn hd1)
  have HX1 := Lib.hid (cell_drawn hd1 HX0.out.1)
  clear hd1
  go_wp2_with fail
  refine (minDegree_any w.heap.size g n M zs _ HX1.out HR1.out HM.out hz hz16 HZ.out).mono ?_
  rintro e w2 ⟨rfl, hb2⟩
  have HB2 : Hid (Below w.heap.size w w2) := HB1.out.trans (hb2.mono HB1.out.size)
  clear hb2
  go_wp2
  go_ret
  exact ⟨rfl, HB2.out⟩

def dgnI (L : List (List Int)) : Int := if GraphP L then (dgnTo (adjB L) L.length L.length : Int) else -1

theorem restX_nil (A : Nat → Nat → Bool) : restX A [] = A := by
  funext i j
  unfold restX
  rw [hasB_nil, hasB_nil]; simp
theorem rest_cut (A : Nat → Nat → Bool) (ys : List Int) (v : Nat) : cutA (restX A ys) v = restX A (ys ++ [(v : Int)]) := by
  funext i j
  rw [restX_snoc]; rfl
theorem remL_none {ys : List Int} {n : Nat} (h : OrdP ys n) : (remL (fun v => hasB ys (v : Int)) n).length = 0 := by
  rw [List.length_eq_zero_iff, List.eq_nil_iff_forall_not_mem]
  intro x hx
  obtain ⟨v, hv, hg, rfl⟩ := remL_mem.1 hx
  exact hasB_false.1 hg (ordP_mem h hv)
theorem remL_some {ys : List Int} {n v : Nat} (hv : v < n) (h : (v : Int) ∉ ys) : 0 < (remL (fun v => hasB ys (v : Int)) n).length :=
  List.length_pos_of_mem (remL_mem.2 ⟨v, hv, hasB_false.2 h, rfl⟩)
theorem remL_at (g : Nat → Bool) {n : Nat} (hn : n ≤ 16) : ∀ i, i < (remL g n).length → ∃ u : Nat, nth (remL g n) i = (u : Int) ∧ u < 16 := fun i hi => by
  obtain ⟨u, hu, _, e⟩ := remL_mem.1 (nth_mem hi)
  exact ⟨u, e.symm, by omega⟩
/-- At work: who is left, and the neighbours that are left. -/
structure DgW (w : World) (g n : Nat) (A : Nat → Nat → Bool) (k : Nat) (wr : World) : Prop where
  rem : RemBlk wr g n (fun i => pm (restX A (grL (restC A) n k) i)) (remL (fun v => hasB (grL (restC A) n k) (v : Int)) n)
  bel : Below w.heap.size w wr
  low : w.heap.size ≤ g

set_option maxHeartbeats 4000000 in
set_option maxRecDepth 100000 in
theorem implDegeneracyOf_any (v : Value) (L : List (List Int)) (w : World) (h : GridAt w v L) : Calls Try.prog 17 #[.agg #[v]] w fun e w' => e = .returned (.int .i64 (dgnI L)) ∧ Below w.heap.size w w' := by
  have hmf : ∀ (fn : Fn) (first cap : Array Value) (w : World), (Instr.makeFunc fn first cap).run Try.prog w = .ok (.func fn first cap) w := fun _ _ _ _ => rfl
  obtain ⟨a0, c0, rfl⟩ := h.slice
  have HGK : Hid (∀ w', Below w.heap.size w w' → GridAt w' (.slice a0 L.length c0) L) := fun w' hb => h.keep hb
  have HB0 : Hid (Below w.heap.size w (w.alloc (.cells #[.slice a0 L.length c0] 29))) := (Below.refl _ _).alloc (Nat.le_refl _) _
  clear h
  go_enter Try.func17, Try.ntmps17
  go_wp2_with fail
  refine (netOf_any _ L _ (HGK.out _ HB0.out)).mono ?_
  rintro e w1 ⟨rfl, hb1⟩
  have HB1 : Hid (Below w.heap.size w w1) := HB0.out.trans (hb1.mono HB0.out.size)
  have hz1 := HB1.out.size
  have hnb := netBlk_new w1 0 (fun _ => 0)
  clear hb1 HGK HB0
  by_cases hG : GraphP L
  · have hz := hG.1
    have HREL := Lib.hid (adjB_rel hG)
    have HRM : Hid (∀ i, i < 16 → rowM L i = pm (adjB L i)) := fun i _ => by rw [rowM_pm hG]
    have HF : Hid (dgnI L = (dgnTo (adjB L) L.length L.length : Int)) := if_pos hG
    rw [decide_eq_true hG, netArr_yes hG]
    clear hG
    have hlf16 : L.length ≤ 16 := hz.2
    go_wp2_with (refine wpList_store_net rfl 65 (.tmp 3) (.tmp 11) rfl w1.heap.size L.length (rowM L) rfl rfl Try.sizeNet 0 (fun _ => 0) hnb ?_; intro w2 hp; have HN2 := Lib.hid (hp.net.congr rfl HRM.out); have HB2 : Hid (Below w.heap.size w w2) := (HB1.out.alloc hz1 _).trans (hp.below.mono hz1); clear hp)
    refine (remains_any w1.heap.size L.length _ _ HN2.out hz (fun i => pm_lt _)).mono ?_
    rintro e w3 ⟨lf, rfl, hlf, hb3⟩
    have HB3 : Hid (Below w.heap.size w w3) := HB2.out.trans (hb3.mono HB2.out.size)
    have hnew : (w3.alloc (.cells (remArr 0 (fun _ => 0) (fun _ => 0) 0) 70)).heap[w3.heap.size]? = some (.cells (remArr 0 (fun _ => 0) (fun _ => 0) 0) 70 (0, 0)) := heap_alloc_new _ _
    have HNEW := Lib.hid hnew
    have HLF := Lib.hid hlf
    clear hb3 hlf hnew hnb
    go_wp2_with (refine wpList_store_row rfl 70 (.tmp 6) (.tmp 15) rfl w3.heap.size (remArr L.length (fun i => pm ((adjB L) i)) lf L.length) rfl rfl 70 (remArr 0 (fun _ => 0) (fun _ => 0) 0) HNEW.out Try.sizeRem rfl (remArr_one _ _ _ _) ?_)
    obtain ⟨w5, hw5⟩ : ∃ w5, w5 = (w3.alloc (.cells (remArr 0 (fun _ => 0) (fun _ => 0) 0) 70)).setRow w3.heap.size (remArr L.length (fun i => pm ((adjB L) i)) lf L.length) := ⟨_, rfl⟩
    have hg5 : w5.heap[w3.heap.size]? = some (.cells (remArr L.length (fun i => pm ((adjB L) i)) lf L.length) 70 (0, 0)) := by rw [hw5]; exact setRow_heap _ _ _ _ 70 _ HNEW.out
    have hb5 : Below w3.heap.size w3 w5 := by
      rw [hw5]
      exact ((Below.refl _ _).alloc (Nat.le_refl _) _).trans ⟨rfl, rfl, rfl, by simp [World.setRow], fun k hk => setRow_other _ w3.heap.size k _ (by omega)⟩
    have hs5 : w5.heap.size = w3.heap.size + 1 := by rw [hw5]; simp [World.setRow]
    have HW0 : Hid (DgW w w3.heap.size L.length (adjB L) 0 w5) := by
      refine ⟨⟨lf, ?_, ?_⟩, HB3.out.trans (hb5.mono HB3.out.size), HB3.out.size⟩
      · have e : (remL (fun i => hasB (grL (restC (adjB L)) L.length 0) (i : Int)) L.length) = allL L.length := remL_all L.length
        rw [e, allL_len]
        refine (remArr_row hg5).congr (fun i _ => ?_)
        have : restX (adjB L) (grL (restC (adjB L)) L.length 0) = (adjB L) := restX_nil (adjB L)
        rw [this]
      · intro i hi
        have e : (remL (fun i => hasB (grL (restC (adjB L)) L.length 0) (i : Int)) L.length) = allL L.length := remL_all L.length
        rw [e, allL_len] at hi
        rw [e, HLF.out i hi]
        simp [nth, allL, hi]
    change Code.wp _ _ _ _ (World.setRow (w3.alloc (.cells (remArr 0 (fun _ => 0) (fun _ => 0) 0) 70)) w3.heap.size (remArr L.length (fun i => pm ((adjB L) i)) lf L.length))
    rw [← hw5]
    clear hw5 hg5 hb5 HNEW HLF HB3
    simp only [Act.put]
    go_loopw [5, 7] (fun s _ wr => ∃ k : Nat, k ≤ L.length ∧ s = .int .i64 ((dgnTo (adjB L) L.length k : Nat) : Int) ∧ DgW w w3.heap.size L.length (adjB L) k wr ∧ w3.heap.size < wr.heap.size) (fun _ _ wr => (intOf ((wr.cell? ⟨w3.heap.size, 33, none⟩).getD undef)).toNat)
    case atStart => exact ⟨0, Nat.zero_le _, rfl, HW0.out, by omega⟩
    case round =>
      obtain ⟨k, hk, rfl, hw, hzr⟩ := hrel
      have HW := Lib.hid hw
      have HS : Hid (dgnTo (adjB L) L.length (k + 1) = max (dgnTo (adjB L) L.length k) (restC (adjB L) (grL (restC (adjB L)) L.length k) (bestAt (restC (adjB L)) L.length k))) := rfl
      obtain ⟨ys, hys⟩ : ∃ ys, ys = grL (restC (adjB L)) L.length k := ⟨_, rfl⟩
      obtain ⟨s, hs⟩ : ∃ s, s = dgnTo (adjB L) L.length k := ⟨_, rfl⟩
      have HSS := Lib.hid hs
      have hmany := hw.rem.many
      have HMY : Hid (wr.cell? ⟨w3.heap.size, 33, none⟩ = some (.int .i64 (((remL (fun v => hasB ys (v : Int)) L.length).length : Nat) : Int))) := by show _ = _; rw [hys]; exact hmany
      rw [← hys] at HS hmany
      rw [← hs] at HS ⊢
      have HYS := Lib.hid hys
      by_cases hlt : k < L.length
      · obtain ⟨v, hv, ev, hnew⟩ := grL_best (c := restC (adjB L)) (n := L.length) hlt
        have HBE : Hid (bestAt (restC (adjB L)) L.length k = v) := by show _ = _; unfold bestAt; rw [ev, Int.toNat_natCast]
        have HNX : Hid (grL (restC (adjB L)) L.length (k + 1) = ys ++ [(v : Int)]) := by show _ = _; rw [grL, ev, hys]
        rw [← hys] at ev hnew
        have hv16 : v < 16 := by omega
        have hlen := remL_some hv hnew
        have hl16 : (remL (fun v => hasB ys (v : Int)) L.length).length ≤ 16 := Nat.le_trans (remL_len _ _) hz.2
        have hpos : (((remL (fun v => hasB ys (v : Int)) L.length).length : Nat) : Int) > 0 := by omega
        have HMIN : Hid (minTo (fun i => bitsTo (pm (restX (adjB L) ys i)) 16) (remL (fun v => hasB ys (v : Int)) L.length) ((remL (fun v => hasB ys (v : Int)) L.length).length - 1) = (v : Int)) := by show _ = _; rw [minTo_best _ _ _ hlen]; exact ev
        have HREM : Hid (RemBlk wr w3.heap.size L.length (fun i => pm (restX (adjB L) ys i)) (remL (fun v => hasB ys (v : Int)) L.length)) := by have h := hw.rem; rw [← hys] at h; exact h
        obtain ⟨k0, q1, q2, q3, q4⟩ := remL_off (ys := ys) hv hnew
        have HLL : Hid ((remL (fun i => hasB (ys ++ [(v : Int)]) (i : Int)) L.length).length < (remL (fun v => hasB ys (v : Int)) L.length).length) := by show _ < _; rw [← q4, offL_len q1]; omega
        have HRV : Hid (∀ W, RemBlk W w3.heap.size L.length (fun i => pm (restX (adjB L) ys i)) (remL (fun v => hasB ys (v : Int)) L.length) → Calls Try.prog 61 #[.pointer (some ⟨w3.heap.size, 0, none⟩), .int .i64 (v : Int)] W fun e w' => e = .returned (.tuple #[]) ∧ RemBlk w' w3.heap.size L.length (fun i => pm (cutA (restX (adjB L) ys) v i)) (remL (fun i => hasB (ys ++ [(v : Int)]) (i : Int)) L.length) ∧ Touched w3.heap.size (w3.heap.size + 1) W w') :=
          fun W hW => remRemove_any _ w3.heap.size L.length v k0 (restX (adjB L) ys) _ W hW hl16 q1 q2 q3 (remL_i64 _ hz.2) hv16 (restX_rel HREL.out ys).sym ((restX_rel HREL.out ys).self v) q4
        have HZR := Lib.hid hzr
        have HDG : Hid (restC (adjB L) ys (bestAt (restC (adjB L)) L.length k) = bitsTo (pm (restX (adjB L) ys v)) 16) := by show _ = _; rw [HBE.out]; rfl
        obtain ⟨d, hd⟩ : ∃ d, d = bitsTo (pm (restX (adjB L) ys v)) 16 := ⟨_, rfl⟩
        have HD := Lib.hid hd
        clear hd hs hys hw ev hnew q1 q2 q3 q4 hzr
        go_wp2_with fail
        refine (remCheapD_any w3.heap.size L.length _ _ _ HREM.out (fun i => pm_lt _) hlen hl16 (remL_at _ hz.2)).mono ?_
        rintro e w6 ⟨rfl, hb6⟩
        rw [HMIN.out]
        have HR6 := Lib.hid (HREM.out.keep hb6)
        have HB6 : Hid (Below w.heap.size w w6) := HW.out.bel.trans (hb6.mono HW.out.bel.size)
        have HZ6 : Hid (w3.heap.size < w6.heap.size) := Nat.lt_of_lt_of_le HZR.out hb6.size
        clear hb6 hmany hpos
        go_wp2_with fail
        refine (remDegree_any w3.heap.size L.length v _ _ _ HR6.out hv16 (pm_lt _)).mono ?_
        rintro e w7 ⟨rfl, hd7⟩
        rw [← HD.out]
        have HR7 := Lib.hid (HR6.out.drawn hd7)
        have HB7 : Hid (Below w.heap.size w w7) := HB6.out.trans ((hd7.below _).mono HB6.out.size)
        have HZ7 : Hid (w3.heap.size < w7.heap.size) := Nat.lt_of_lt_of_le HZ6.out (hd7.below 0).size
        clear hd7
        go_wp2_with fail
        all_goals (
          refine (HRV.out _ HR7.out).mono ?_
          rintro e w8 ⟨rfl, hr8, ht8⟩
          have HR8 := Lib.hid hr8
          have HB8 : Hid (Below w.heap.size w w8) := HB7.out.trans ((ht8.below (by have := HZ7.out; omega)).mono HW.out.low)
          have HZ8 : Hid (w3.heap.size < w8.heap.size) := Nat.lt_of_lt_of_le HZ7.out ht8.size
          have HM8 := Lib.hid hr8.many
          have HME : Hid ((intOf ((w8.cell? ⟨w3.heap.size, 33, none⟩).getD undef)).toNat < (intOf ((wr.cell? ⟨w3.heap.size, 33, none⟩).getD undef)).toNat) := by
            show _ < _
            rw [HM8.out, HMY.out]
            exact HLL.out
          have HW8 : Hid (DgW w w3.heap.size L.length (adjB L) (k + 1) w8) := by
            refine ⟨?_, HB8.out, HW.out.low⟩
            rw [HNX.out, ← rest_cut]
            exact HR8.out
          clear hr8 ht8
          go_wp2
          go_roundw
          case rel => exact ⟨k + 1, by omega, by rw [HS.out, HDG.out, ← HD.out]; (congr 1; omega), HW8.out, HZ8.out⟩
          case measure => exact HME.out)
      · obtain rfl : k = L.length := by omega
        have h0 : (remL (fun v => hasB ys (v : Int)) L.length).length = 0 := remL_none (by rw [hys]; exact grL_ord _ _)
        rw [h0] at hmany
        clear hs hys hw h0
        go_wp2
        go_ret
        exact ⟨ret_int (by rw [HF.out, HSS.out]), HW.out.bel⟩
  · have HI : Hid (dgnI L = -1) := if_neg hG
    rw [decide_eq_false hG, netArr_no hG]
    clear hG
    go_wp2_with (refine wpList_store_net rfl 65 (.tmp 3) (.tmp 11) rfl w1.heap.size 0 (fun _ => 0) rfl rfl Try.sizeNet 0 (fun _ => 0) hnb ?_; intro w3 hp; have HB3 : Hid (Below w.heap.size w w3) := (HB1.out.alloc hz1 _).trans (hp.below.mono hz1); clear hp)
    go_ret
    exact ⟨ret_int HI.out.symm, HB3.out⟩

end Go.Proofs.Ytmfolclpddoplaa

/- Walks: DegeneracyOf of the model. -/
namespace Go.Proofs.Ytmfolclpddoplaa
open Go.RowKit

/-- At work: who has gone. -/
structure DgS (w1 : World) (n : Nat) (ys : List Int) (w : World) : Prop where
  gone : w.rowIs w1.heap.size 4 n (fun i => .bool (hasB ys (i : Int)))
  bel : Below w1.heap.size w1 w
theorem DgS.keep {w1 : World} {n : Nat} {ys : List Int} {w w' : World} (h : DgS w1 n ys w) (hb : Below w.heap.size w w') : DgS w1 n ys w' :=
  ⟨rowIs_below h.gone hb, h.bel.trans (hb.mono h.bel.size)⟩
theorem DgS.flag {w1 : World} {n : Nat} {ys : List Int} {w : World} (h : DgS w1 n ys w) (q : Nat) : DgS w1 n (ys ++ [(q : Int)]) (w.setCell ⟨w1.heap.size, q, none⟩ (.bool true)) := by
  refine ⟨(h.gone.set q (.bool true)).congr (fun i _ => ?_), h.bel.setCell (Nat.le_refl _) _⟩
  rw [← hasB_more]
  by_cases e : i = q
  · rw [if_pos e, if_pos e]
  · rw [if_neg e, if_neg e]
def GaveLen (w : World) (m : Nat) (e : Ending) (w' : World) : Prop := ∃ a c, e = .returned (.slice a m c) ∧ Below w.heap.size w w'

theorem l7Left_len (a0 : Option Addr) (c0 : Nat) (L : List (List Int)) (ys : List Int) (u gb : Nat) (w : World) (h : GridAt w (.slice a0 L.length c0) L) (hG : GraphP L) (hu : u < L.length) (hy : hasB ys (u : Int) = false)
    (hf : w.rowIs gb 4 L.length (fun i => .bool (hasB ys (i : Int)))) :
    Calls Try.prog 66 #[.agg #[.slice a0 L.length c0], .int .i64 (u : Int), .slice (some ⟨gb, 0, none⟩) L.length L.length] w (GaveLen w (restC (adjB L) ys u)) := by
  have hE : nthR L u = listM (pm (adjB L u)) := by
    have h := adjL_nth (n := L.length) (adjB L) hu
    rw [graph_adjL hG] at h; exact h
  have hr : (fun j => adjB L u j && !hasB ys (j : Int)) = restX (adjB L) ys u := by
    funext j
    unfold restX
    rw [hy]; simp
  refine (l7Left_any (.slice a0 L.length c0) L u gb (fun i => hasB ys (i : Int)) w h (hG.2.1 u hu).1 hG.1.2 hu hf).mono ?_
  rintro e w7 ⟨n7, a7, c7, rfl, ho7, hb7⟩
  rw [hE, stay_pm, hr] at ho7
  obtain ⟨a8, c8, e8⟩ := ho7.row.slice
  rw [listM_szB] at e8
  exact ⟨a8, c8, by rw [e8]; rfl, hb7⟩

theorem l1Max_nat (x y : Nat) (w : World) : Calls Try.prog 67 #[.int .i64 (x : Int), .int .i64 (y : Int)] w fun e w' => e = .returned (.int .i64 ((max x y : Nat) : Int)) ∧ w = w' := by
  go_enter Try.func67, Try.ntmps67
  by_cases h : (x : Int) > (y : Int)
  · have hm : max x y = x := by omega
    rw [hm]
    go_wp2
    go_ret
    exact ⟨rfl, rfl⟩
  · have hm : max x y = y := by omega
    rw [hm]
    go_wp2
    go_ret
    exact ⟨rfl, rfl⟩

set_option maxHeartbeats 8000000 in
set_option maxRecDepth 100000 in
theorem specDegeneracyOf_any (v : Value) (L : List (List Int)) (w : World) (h : GridAt w v L) : Calls Try.prog 20 #[.agg #[v]] w fun e w' => e = .returned (.int .i64 (dgnI L)) ∧ Below w.heap.size w w' := by
  obtain ⟨a0, c0, rfl⟩ := h.slice
  have HGK : Hid (∀ W, Below w.heap.size w W → GridAt W (.slice a0 L.length c0) L) := fun W hb => h.keep hb
  have HB0 : Hid (Below w.heap.size w (w.alloc (.cells #[.slice a0 L.length c0] 29))) := (Below.refl _ _).alloc (Nat.le_refl _) _
  have HX0 : Hid (BoxAt (w.alloc (.cells #[.slice a0 L.length c0] 29)) w.heap.size (.slice a0 L.length c0)) := BoxAt.new _ _ _
  clear h
  go_enter Try.func20, Try.ntmps20
  go_wp2_with fail
  refine (specGraphOk_any _ _ _ (HGK.out _ HB0.out)).mono ?_
  rintro e w1 ⟨rfl, hb1⟩
  have HB1 : Hid (Below w.heap.size w w1) := HB0.out.trans (hb1.mono HB0.out.size)
  have HX1 := Lib.hid (HX0.out.keep hb1)
  clear hb1
  by_cases hG : GraphP L
  · have hz := hG.1
    have HGP := Lib.hid hG
    have HF : Hid (dgnI L = (dgnTo (adjB L) L.length L.length : Int)) := if_pos hG
    have kb1 := HX1.out.1
    rw [decide_eq_true hG]
    clear hG
    go_wp2_with fail
    refine (l1Size_any _ L _ (HGK.out _ HB1.out)).mono ?_
    rintro e w2 ⟨rfl, hb2⟩
    have HB2 : Hid (Below w.heap.size w w2) := HB1.out.trans (hb2.mono HB1.out.size)
    have HX2 := Lib.hid (HX1.out.keep hb2)
    have hmk := run_make_row' (P := Try.prog) 75 4 (.bool false) 1 Try.underlying75 Try.infoBo rfl .i64 .i64 L.length (by omega) (by omega)
    have hrm := World.rowIs_made w2 (.bool false) L.length 4
    have hb3 : Below w2.heap.size w2 (w2.alloc (.cells (madeCells #[.bool false] L.length) 4)) := (Below.refl _ _).alloc (Nat.le_refl _) _
    have HW0 : Hid (DgS w2 L.length (grL (restC (adjB L)) L.length 0) (w2.alloc (.cells (madeCells #[.bool false] L.length) 4))) := by
      refine ⟨hrm.congr (fun i _ => ?_), hb3⟩
      have : hasB (grL (restC (adjB L)) L.length 0) (i : Int) = false := hasB_false.2 (by simp [grL])
      rw [this]
    have HBW : Hid (∀ W, Below w2.heap.size w2 W → Below w.heap.size w W) := fun W hb => HB2.out.trans (hb.mono HB2.out.size)
    have HKB : Hid (∀ W, Below w2.heap.size w2 W → W.cell? ⟨w.heap.size, 0, none⟩ = some (.slice a0 L.length c0)) := fun W hb => (HX2.out.keep hb).1
    clear hb2 hrm hb3 kb1
    go_wp2_with fail
    go_loopw [4, 5, 6, 7] (fun s i _ _ wr => ∃ k : Nat, k ≤ L.length ∧ i = .int .i64 k ∧ s = .int .i64 ((dgnTo (adjB L) L.length k : Nat) : Int) ∧ DgS w2 L.length (grL (restC (adjB L)) L.length k) wr) (fun _ i _ _ _ => L.length - (intOf i).toNat)
    case atStart => exact ⟨0, Nat.zero_le _, rfl, rfl, HW0.out⟩
    case round =>
      obtain ⟨k, hk, rfl, rfl, hw⟩ := hrel
      have HS : Hid (dgnTo (adjB L) L.length (k + 1) = max (dgnTo (adjB L) L.length k) (restC (adjB L) (grL (restC (adjB L)) L.length k) (bestAt (restC (adjB L)) L.length k))) := rfl
      obtain ⟨ys, hys⟩ : ∃ ys, ys = grL (restC (adjB L)) L.length k := ⟨_, rfl⟩
      obtain ⟨s, hs⟩ : ∃ s, s = dgnTo (adjB L) L.length k := ⟨_, rfl⟩
      rw [← hys] at HS hw
      rw [← hs] at HS ⊢
      have HSS := Lib.hid hs
      have HYS := Lib.hid hys
      have HW := Lib.hid hw
      have kb := HKB.out _ hw.bel
      clear hw hs hys
      go_wp2_with fail
      refine (l1Size_any _ L _ (HGK.out _ (HBW.out _ HW.out.bel))).mono ?_
      rintro e w5 ⟨rfl, hb5⟩
      have HW5 := Lib.hid (HW.out.keep hb5)
      clear hb5 kb HW
      by_cases hlt : k < L.length
      · have hltI : (k : Int) < (L.length : Int) := by omega
        obtain ⟨p, hp⟩ : ∃ p, p = bstTo (restC (adjB L) ys) (fun v => hasB ys (v : Int)) := ⟨_, rfl⟩
        have HPE := Lib.hid hp
        clear hp
        have HP0 : Hid (p 0 = -1) := by show _ = _; rw [HPE.out]; rfl
        go_wp2_with fail
        go_loopw [6, 7] (fun b i wr => ∃ q : Nat, q ≤ L.length ∧ i = .int .i64 q ∧ b = .int .i64 (p q) ∧ DgS w2 L.length ys wr) (fun _ i _ => L.length - (intOf i).toNat)
        case atStart => exact ⟨0, Nat.zero_le _, rfl, by rw [HP0.out], HW5.out⟩
        case round =>
          rename World => w6
          obtain ⟨q, hq, rfl, rfl, hw6⟩ := hrel
          have HW6 := Lib.hid hw6
          have kb := HKB.out _ hw6.bel
          clear hw6
          go_wp2_with fail
          refine (l1Size_any _ L _ (HGK.out _ (HBW.out _ HW6.out.bel))).mono ?_
          rintro e w7 ⟨rfl, hb7⟩
          have HW7 := Lib.hid (HW6.out.keep hb7)
          clear hb7 kb HW6
          have HCB : Hid (∀ W, Below w7.heap.size w7 W → Below w2.heap.size w2 W) := fun W hb => HW7.out.bel.trans (hb.mono HW7.out.bel.size)
          have HC : Hid (Below w7.heap.size w7 w7.drew) := (Below.refl _ _).drew
          by_cases hql : q < L.length
          · have hqI : (q : Int) < (L.length : Int) := by omega
            have HKG : Hid (∀ W, Below w7.heap.size w7 W → W.cell? ⟨w2.heap.size, q, none⟩ = some (.bool (hasB ys (q : Int)))) := fun W hb => (rowIs_below HW7.out.gone hb).cell hql
            have HPQ : Hid (p (q + 1) = if hasB ys (q : Int) = true then p q else if p q < 0 ∨ restC (adjB L) ys q < restC (adjB L) ys (p q).toNat then (q : Int) else p q) := by show _ = _; rw [HPE.out]; rfl
            have HPG : Hid (-1 ≤ p q ∧ p q < (q : Int)) := by show _ ∧ _; rw [HPE.out]; exact bstTo_ge _ _ _
            have HPY : Hid (0 ≤ p q → hasB ys (((p q).toNat : Nat) : Int) = false) := by
              show _ → _
              rw [HPE.out]; exact bstTo_yes
            obtain ⟨r, hr⟩ : ∃ r, r = p q := ⟨_, rfl⟩
            rw [← hr] at HPQ HPG HPY ⊢
            clear hr
            by_cases hg : hasB ys (q : Int) = true
            · have HPF : Hid (p (q + 1) = r) := by show _ = _; rw [HPQ.out, if_pos hg]
              have HKG2 : Hid (∀ W, Below w7.heap.size w7 W → W.cell? ⟨w2.heap.size, q, none⟩ = some (.bool true)) := fun W hb => by have := HKG.out W hb; rw [hg] at this; exact this
              have kl1 := fun z : Later w7 => z.cell (HKG2.out _ (Below.refl _ _))
              clear hg
              go_wp2_with fail
              refine wp_region_later (by kernel_rfl) (by kernel_rfl) ?_
              repeat (go_big_quiet_step (fail))
              refine wpQuiet_nil ?_
              rintro _ ⟨z, rfl⟩
              have HZZ := Lib.hid z.bel
              generalize z.at = w8 at HZZ ⊢
              clear kl1
              go_wp2
              go_roundw
              case rel => exact ⟨q + 1, by omega, by go_num, by rw [HPF.out], HW7.out.keep HZZ.out⟩
              case measure => simp [intOf]; omega
            · have hg' : hasB ys (q : Int) = false := by simpa using hg
              have HKG2 : Hid (∀ W, Below w7.heap.size w7 W → W.cell? ⟨w2.heap.size, q, none⟩ = some (.bool false)) := fun W hb => by have := HKG.out W hb; rw [hg'] at this; exact this
              have HGO := Lib.hid hg'
              by_cases hr0 : r < 0
              · have HPF : Hid (p (q + 1) = (q : Int)) := by show _ = _; rw [HPQ.out, if_neg hg, if_pos (Or.inl hr0)]
                have hrd : decide (r < 0) = true := decide_eq_true hr0
                have kl1 := fun z : Later w7 => z.cell (HKG2.out _ (Below.refl _ _))
                clear hg hg'
                go_wp2_with fail
                refine wp_region_later (by kernel_rfl) (by kernel_rfl) ?_
                repeat (go_big_quiet_step (fail))
                refine wpQuiet_nil ?_
                rintro _ ⟨z, rfl⟩
                have HZZ := Lib.hid z.bel
                generalize z.at = w8 at HZZ ⊢
                clear kl1
                go_wp2
                go_roundw
                case rel => exact ⟨q + 1, by omega, by go_num, by rw [HPF.out], HW7.out.keep HZZ.out⟩
                case measure => simp [intOf]; omega
              · obtain ⟨b, hb⟩ : ∃ b : Nat, r = (b : Int) := ⟨r.toNat, by omega⟩
                subst hb
                have hbq : b < q := by have := HPG.out.2; omega
                have hyb : hasB ys (b : Int) = false := by have := HPY.out (by omega); rwa [Int.toNat_natCast] at this
                have HPN : Hid (p (q + 1) = if restC (adjB L) ys q < restC (adjB L) ys b then (q : Int) else (b : Int)) := by
                  show _ = _
                  rw [HPQ.out, if_neg hg, Int.toNat_natCast]
                  by_cases e : restC (adjB L) ys q < restC (adjB L) ys b
                  · rw [if_pos (Or.inr e), if_pos e]
                  · rw [if_neg e, if_neg (by omega)]
                have hb0 : decide ((b : Int) < 0) = false := decide_eq_false hr0
                have HLQ : Hid (∀ W, Below w7.heap.size w7 W → Calls Try.prog 66 #[.agg #[.slice a0 L.length c0], .int .i64 (q : Int), .slice (some ⟨w2.heap.size, 0, none⟩) L.length L.length] W (GaveLen W (restC (adjB L) ys q))) := fun W hb =>
                  l7Left_len a0 c0 L ys q w2.heap.size W (HGK.out _ (HBW.out _ (HCB.out _ hb))) HGP.out hql hg' (rowIs_below HW7.out.gone hb)
                have HLB : Hid (∀ W, Below w7.heap.size w7 W → Calls Try.prog 66 #[.agg #[.slice a0 L.length c0], .int .i64 (b : Int), .slice (some ⟨w2.heap.size, 0, none⟩) L.length L.length] W (GaveLen W (restC (adjB L) ys b))) := fun W hb =>
                  l7Left_len a0 c0 L ys b w2.heap.size W (HGK.out _ (HBW.out _ (HCB.out _ hb))) HGP.out (by omega) hyb (rowIs_below HW7.out.gone hb)
                obtain ⟨x, hx⟩ : ∃ x, x = restC (adjB L) ys q := ⟨_, rfl⟩
                obtain ⟨y, hy⟩ : ∃ y, y = restC (adjB L) ys b := ⟨_, rfl⟩
                rw [← hx] at HLQ HPN
                rw [← hy] at HLB HPN
                have kc := HKB.out _ (HCB.out _ HC.out)
                have kg := HKG2.out _ HC.out
                clear hx hy hg hg' hr0 hyb
                by_cases hxy : x < y
                · have HPF : Hid (p (q + 1) = (q : Int)) := by show _ = _; rw [HPN.out, if_pos hxy]
                  have hd : decide ((x : Int) < (y : Int)) = true := decide_eq_true (by omega)
                  go_wp2_with fail
                  go_region_held3 (fun wx => wx.cell? ⟨w.heap.size, 0, none⟩ = some (.slice a0 L.length c0) ∧ wx.cell? ⟨w2.heap.size, q, none⟩ = some (.bool false)) (exact ⟨kc, kg⟩) (first
                    | (go_simp; go_at_call 66; (with_reducible refine (HLQ.out _ HC.out).mono ?_); rintro e w8 ⟨a8, c8, rfl, hb8⟩; have HD : Hid (Below w7.heap.size w7 w8) := HC.out.trans (hb8.mono HC.out.size); clear HC kc kg; have HC := Lib.hid HD.out; clear HD; have kc := HKB.out _ (HCB.out _ HC.out); have kg := HKG2.out _ HC.out; clear hb8)
                    | (go_simp; go_at_call 66; (with_reducible refine (HLB.out _ HC.out).mono ?_); rintro e w8 ⟨a8, c8, rfl, hb8⟩; have HD : Hid (Below w7.heap.size w7 w8) := HC.out.trans (hb8.mono HC.out.size); clear HC kc kg; have HC := Lib.hid HD.out; clear HD; have kc := HKB.out _ (HCB.out _ HC.out); have kg := HKG2.out _ HC.out; clear hb8))
                  all_goals (
                    have HW8 := Lib.hid (HW7.out.keep HC.out)
                    clear kc kg HC
                    go_wp2
                    go_roundw
                    case rel => exact ⟨q + 1, by omega, by go_num, by rw [HPF.out], HW8.out⟩
                    case measure => simp [intOf]; omega)
                · have HPF : Hid (p (q + 1) = (b : Int)) := by show _ = _; rw [HPN.out, if_neg hxy]
                  have hd : decide ((x : Int) < (y : Int)) = false := decide_eq_false (by omega)
                  go_wp2_with fail
                  go_region_held3 (fun wx => wx.cell? ⟨w.heap.size, 0, none⟩ = some (.slice a0 L.length c0) ∧ wx.cell? ⟨w2.heap.size, q, none⟩ = some (.bool false)) (exact ⟨kc, kg⟩) (first
                    | (go_simp; go_at_call 66; (with_reducible refine (HLQ.out _ HC.out).mono ?_); rintro e w8 ⟨a8, c8, rfl, hb8⟩; have HD : Hid (Below w7.heap.size w7 w8) := HC.out.trans (hb8.mono HC.out.size); clear HC kc kg; have HC := Lib.hid HD.out; clear HD; have kc := HKB.out _ (HCB.out _ HC.out); have kg := HKG2.out _ HC.out; clear hb8)
                    | (go_simp; go_at_call 66; (with_reducible refine (HLB.out _ HC.out).mono ?_); rintro e w8 ⟨a8, c8, rfl, hb8⟩; have HD : Hid (Below w7.heap.size w7 w8) := HC.out.trans (hb8.mono HC.out.size); clear HC kc kg; have HC := Lib.hid HD.out; clear HD; have kc := HKB.out _ (HCB.out _ HC.out); have kg := HKG2.out _ HC.out; clear hb8))
                  all_goals (
                    have HW8 := Lib.hid (HW7.out.keep HC.out)
                    clear kc kg HC
                    go_wp2
                    go_roundw
                    case rel => exact ⟨q + 1, by omega, by go_num, by rw [HPF.out], HW8.out⟩
                    case measure => simp [intOf]; omega)
          · obtain rfl : q = L.length := by omega
            obtain ⟨v, hv, ev, hnew⟩ := grL_best (c := restC (adjB L)) (n := L.length) hlt
            have HDG : Hid (restC (adjB L) ys (bestAt (restC (adjB L)) L.length k) = restC (adjB L) ys v) := by show _ = _; unfold bestAt; rw [ev, Int.toNat_natCast]
            have HNX : Hid (grL (restC (adjB L)) L.length (k + 1) = ys ++ [(v : Int)]) := by show _ = _; rw [grL, ev, HYS.out]
            rw [← HYS.out] at ev hnew
            have hpv : p L.length = (v : Int) := by rw [HPE.out]; exact ev
            have hyv : hasB ys (v : Int) = false := hasB_false.2 hnew
            have HCL := Lib.hid (l7Left_len a0 c0 L ys v w2.heap.size _ (HGK.out _ (HBW.out _ HW7.out.bel)) HGP.out hv hyv HW7.out.gone)
            obtain ⟨d, hd⟩ : ∃ d, d = restC (adjB L) ys v := ⟨_, rfl⟩
            rw [← hd] at HCL HDG
            have kc := HKB.out _ HW7.out.bel
            have hvI : (v : Int) < (L.length : Int) := by omega
            rw [hpv]
            clear hpv hd ev hnew hyv
            go_wp2_with fail
            refine HCL.out.mono ?_
            rintro e w8 ⟨a8, c8, rfl, hb8⟩
            have hw8 := HW7.out.keep hb8
            have HW8 := Lib.hid hw8
            clear hb8 kc HCL
            go_wp2_with fail
            refine (l1Max_nat s d w8).mono ?_
            rintro e w9 ⟨rfl, rfl⟩
            have kg9 := hw8.gone.cell hv
            have fg9 := hw8.gone.frozen v
            have HFL := Lib.hid (hw8.flag v)
            clear hw8
            go_wp2
            go_roundw
            case rel => exact ⟨k + 1, by omega, by go_num, by rw [HS.out, HDG.out], by rw [HNX.out]; exact HFL.out⟩
            case measure => simp [intOf]; omega
      · obtain rfl : k = L.length := by omega
        go_wp2
        go_ret
        exact ⟨ret_int (by rw [HF.out, HSS.out]), HBW.out _ HW5.out.bel⟩
  · have HI : Hid (dgnI L = -1) := if_neg hG
    rw [decide_eq_false hG]
    clear hG
    go_wp2
    go_ret
    exact ⟨ret_int HI.out.symm, HB1.out⟩

end Go.Proofs.Ytmfolclpddoplaa
