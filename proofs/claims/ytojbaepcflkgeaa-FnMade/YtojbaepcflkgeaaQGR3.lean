/- The texts GR3, GR4, joined. -/
import Derived.Test.YtojbaepcflkgeaaQGR1
import Derived.Laws.EntriesVeiled
import Derived.Test.YtojbaepcflkgeaaQF6
import Derived.Test.YtojbaepcflkgeaaQB4

/- Walks: the program's table of generators, and the graph that is made. -/
namespace Go.Proofs.Ytojbaepcflkgeaa
open Go.RowKit

def genF : List Nat := [107, 108, 109, 110, 111, 112, 113, 114, 115]

set_option maxHeartbeats 1600000 in
theorem generators_any (w : World) : Calls Try.prog 82 #[] w (fun e w' => e = .returned (.agg #[.func (.func 107) #[] #[], .func (.func 108) #[] #[], .func (.func 109) #[] #[], .func (.func 110) #[] #[], .func (.func 111) #[] #[], .func (.func 112) #[] #[], .func (.func 113) #[] #[], .func (.func 114) #[] #[], .func (.func 115) #[] #[]]) ∧ Below w.heap.size w w') := by
  go_enter Try.func82, Try.ntmps82
  go_wp2
  refine bodyPost_ret (v := .agg #[.func (.func 107) #[] #[], .func (.func 108) #[] #[], .func (.func 109) #[] #[], .func (.func 110) #[] #[], .func (.func 111) #[] #[], .func (.func 112) #[] #[], .func (.func 113) #[] #[], .func (.func 114) #[] #[], .func (.func 115) #[] #[]]) (by simp [results, Try.results82, go_sem]) rfl ⟨rfl, ?_⟩
  exact (Below.refl _ _).alloc (Nat.le_refl _) _

theorem idx0 (w : World) : (Instr.index 92 (.agg #[.func (.func 107) #[] #[], .func (.func 108) #[] #[], .func (.func 109) #[] #[], .func (.func 110) #[] #[], .func (.func 111) #[] #[], .func (.func 112) #[] #[], .func (.func 113) #[] #[], .func (.func 114) #[] #[], .func (.func 115) #[] #[]]) (.int .i64 0)).run Try.prog w = .ok (.func (.func 107) #[] #[]) w := by kernel_rfl
theorem idx1 (w : World) : (Instr.index 92 (.agg #[.func (.func 107) #[] #[], .func (.func 108) #[] #[], .func (.func 109) #[] #[], .func (.func 110) #[] #[], .func (.func 111) #[] #[], .func (.func 112) #[] #[], .func (.func 113) #[] #[], .func (.func 114) #[] #[], .func (.func 115) #[] #[]]) (.int .i64 1)).run Try.prog w = .ok (.func (.func 108) #[] #[]) w := by kernel_rfl
theorem idx2 (w : World) : (Instr.index 92 (.agg #[.func (.func 107) #[] #[], .func (.func 108) #[] #[], .func (.func 109) #[] #[], .func (.func 110) #[] #[], .func (.func 111) #[] #[], .func (.func 112) #[] #[], .func (.func 113) #[] #[], .func (.func 114) #[] #[], .func (.func 115) #[] #[]]) (.int .i64 2)).run Try.prog w = .ok (.func (.func 109) #[] #[]) w := by kernel_rfl
theorem idx3 (w : World) : (Instr.index 92 (.agg #[.func (.func 107) #[] #[], .func (.func 108) #[] #[], .func (.func 109) #[] #[], .func (.func 110) #[] #[], .func (.func 111) #[] #[], .func (.func 112) #[] #[], .func (.func 113) #[] #[], .func (.func 114) #[] #[], .func (.func 115) #[] #[]]) (.int .i64 3)).run Try.prog w = .ok (.func (.func 110) #[] #[]) w := by kernel_rfl
theorem idx4 (w : World) : (Instr.index 92 (.agg #[.func (.func 107) #[] #[], .func (.func 108) #[] #[], .func (.func 109) #[] #[], .func (.func 110) #[] #[], .func (.func 111) #[] #[], .func (.func 112) #[] #[], .func (.func 113) #[] #[], .func (.func 114) #[] #[], .func (.func 115) #[] #[]]) (.int .i64 4)).run Try.prog w = .ok (.func (.func 111) #[] #[]) w := by kernel_rfl
theorem idx5 (w : World) : (Instr.index 92 (.agg #[.func (.func 107) #[] #[], .func (.func 108) #[] #[], .func (.func 109) #[] #[], .func (.func 110) #[] #[], .func (.func 111) #[] #[], .func (.func 112) #[] #[], .func (.func 113) #[] #[], .func (.func 114) #[] #[], .func (.func 115) #[] #[]]) (.int .i64 5)).run Try.prog w = .ok (.func (.func 112) #[] #[]) w := by kernel_rfl
theorem idx6 (w : World) : (Instr.index 92 (.agg #[.func (.func 107) #[] #[], .func (.func 108) #[] #[], .func (.func 109) #[] #[], .func (.func 110) #[] #[], .func (.func 111) #[] #[], .func (.func 112) #[] #[], .func (.func 113) #[] #[], .func (.func 114) #[] #[], .func (.func 115) #[] #[]]) (.int .i64 6)).run Try.prog w = .ok (.func (.func 113) #[] #[]) w := by kernel_rfl
theorem idx7 (w : World) : (Instr.index 92 (.agg #[.func (.func 107) #[] #[], .func (.func 108) #[] #[], .func (.func 109) #[] #[], .func (.func 110) #[] #[], .func (.func 111) #[] #[], .func (.func 112) #[] #[], .func (.func 113) #[] #[], .func (.func 114) #[] #[], .func (.func 115) #[] #[]]) (.int .i64 7)).run Try.prog w = .ok (.func (.func 114) #[] #[]) w := by kernel_rfl
theorem idx8 (w : World) : (Instr.index 92 (.agg #[.func (.func 107) #[] #[], .func (.func 108) #[] #[], .func (.func 109) #[] #[], .func (.func 110) #[] #[], .func (.func 111) #[] #[], .func (.func 112) #[] #[], .func (.func 113) #[] #[], .func (.func 114) #[] #[], .func (.func 115) #[] #[]]) (.int .i64 8)).run Try.prog w = .ok (.func (.func 115) #[] #[]) w := by kernel_rfl

/-- A graph while it is made by a rule. -/
structure MadeAt (w0 : World) (g n : Nat) (A : Nat → Nat → Bool) (I : Nat → World → Prop) (k : Nat) (w : World) : Prop where
  net : NetBlk 65 w g n (fun i => pm (A i))
  res : BoxAt w w0.heap.size (.slice none 0 0)
  bel : Below w0.heap.size w0 w
  gen : I k w
theorem MadeAt.asked {w0 w w' : World} {g n B d k : Nat} {A : Nat → Nat → Bool} {I : Nat → World → Prop} (h : MadeAt w0 g n A I k w) (ht : Touched B d w w') (hB : w0.heap.size < B) (hd : d ≤ g) (hi : I (k + 1) w') : MadeAt w0 g n A I (k + 1) w' := by
  have hs : B ≤ w.heap.size ∨ w.heap.size < B := by omega
  refine ⟨?_, ⟨?_, ?_⟩, ?_, hi⟩
  · unfold NetBlk
    rw [ht.other g h.net.lt (Or.inr hd)]; exact h.net
  · rw [World.cell?_of_block (w := w) (ht.other w0.heap.size h.res.lt (Or.inl hB))]; exact h.res.1
  · have e := ht.other w0.heap.size h.res.lt (Or.inl hB)
    have hf := h.res.2
    unfold World.frozen? at hf ⊢
    rw [e]; exact hf
  · exact h.bel.trans ⟨ht.os, ht.tape, ht.output, ht.size, fun j hj => ht.other j (by have := h.bel.size; omega) (Or.inl (by omega))⟩
theorem MadeAt.congr {w0 w : World} {g n k k' : Nat} {A A' : Nat → Nat → Bool} {I : Nat → World → Prop} (h : MadeAt w0 g n A I k w) (hA : ∀ i j, A i j = A' i j) (hk : k = k') : MadeAt w0 g n A' I k' w := by
  obtain rfl : A = A' := by funext i j; exact hA i j
  subst hk
  exact h
theorem MadeAt.linked {w0 w w' : World} {K g n N B d k x y : Nat} {lb : Array Value} {R A : Nat → Nat → Bool} {I : Nat → World → Prop} (h : MadeAt w0 g n A I k w) (hok : RuleOk K lb N R B d I) (hp : NetPut 65 w w' g n (linkM (fun i => pm (A i)) x y)) (hd : d ≤ g) (hg : w0.heap.size < g) (hx : x < 16) (hy : y < 16) (hxy : x ≠ y) : MadeAt w0 g n (linkA A x y) I k w' := by
  refine ⟨hp.net.congr rfl (fun i _ => linkM_pm A hx hy hxy i), h.res.keepB hp.below hg, h.bel.trans (hp.below.mono (by omega)), hok.keep _ _ _ h.gen (Nat.le_of_eq hp.size.symm) (fun j hj => hp.other j (by omega))⟩

end Go.Proofs.Ytojbaepcflkgeaa

/- Walks: the graph that is made of a rule. Written by program (tools/gen/made.py). -/
namespace Go.Proofs.Ytojbaepcflkgeaa
open Go.RowKit

set_option maxHeartbeats 3200000 in
set_option maxRecDepth 100000 in
theorem made0_any (nv : Value) (N : Int) (R : Nat → Nat → Bool) (w : World) (hgen : ∀ W, Below w.heap.size w W → Calls Try.prog 107 #[nv] W (GenPost W N R)) :
    Calls Try.prog 48 #[.int .i64 0, nv] w (GaveGB w (genL (inB N 1 16) N.toNat R) (inB N 1 16)) := by
  have HB0 : Hid (Below w.heap.size w (w.alloc (.cells #[.slice none 0 0] 30))) := (Below.refl _ _).alloc (Nat.le_refl _) _
  have HBX0 : Hid (BoxAt (w.alloc (.cells #[.slice none 0 0] 30)) w.heap.size (.slice none 0 0)) := BoxAt.new _ _ _
  have HGEN := Lib.hid hgen
  clear hgen
  go_enter Try.func48, Try.ntmps48
  go_wp2_with fail
  refine (generators_any _).mono ?_
  rintro e w1 ⟨rfl, hb1⟩
  have HB1 : Hid (Below w.heap.size w w1) := HB0.out.trans (hb1.mono HB0.out.size)
  have HBX1 := Lib.hid (HBX0.out.keep hb1)
  have hix := idx0
  clear hb1
  go_wp2_with fail
  refine (HGEN.out w1 HB1.out).mono ?_
  rintro e w2 ⟨near, rfl, hb2, hrule⟩
  have HB2 : Hid (Below w.heap.size w w2) := HB1.out.trans (hb2.mono HB1.out.size)
  have hbx2 := HBX1.out.keep hb2
  have HBX2 := Lib.hid hbx2
  have hz1 := HBX1.out.lt
  have HZ2 := Lib.hid hb2.size
  have k1 := hbx2.1
  have k2 := hbx2.2
  have HR := Lib.hid hrule
  clear hb2 hrule hbx2
  go_wp2_with fail
  refine (sizeOk_any _ _).mono ?_
  rintro e w' ⟨rfl, rfl⟩
  by_cases hin : inB N 1 16 = true
  · obtain ⟨n, rfl, hn1, hn⟩ := inB_nat hin (by omega)
    have hn1 : 1 ≤ n := by omega
    have hn : n ≤ 16 := by omega
    obtain ⟨K, lb, I, rfl, hok, hI0⟩ := HR.out hin
    rw [Int.toNat_natCast] at hok
    have HOK := Lib.hid hok
    have HI0 := Lib.hid hI0
    have HIN := Lib.hid hin
    have HG : Hid (genL (inB (n : Int) 1 16) (n : Int).toNat R = adjL n (symA n R)) := by show _ = _; rw [hin, genL_yes, Int.toNat_natCast]
    rw [hin]
    have hnb := netBlk_new w2 0 (fun _ => 0)
    clear hin hok hI0 HR HGEN
    go_wp2_with (refine wpList_store_net rfl 65 (.tmp 8) (.tmp 24) rfl w2.heap.size n (fun _ => 0) rfl rfl Try.sizeNet 0 (fun _ => 0) hnb ?_; intro w3 hp; have HN3 := Lib.hid hp.net; have HB3 : Hid (Below w.heap.size w w3) := (HB2.out.alloc HB2.out.size _).trans (hp.below.mono HB2.out.size); have BX3 : Hid (BoxAt w3 w.heap.size (.slice none 0 0)) := (HBX2.out.keep ((Below.refl _ _).alloc (Nat.le_refl _) _)).keepB hp.below (by have := HZ2.out; omega); have HI3 : Hid (I 0 w3) := HOK.out.keep 0 _ _ HI0.out (Nat.le_trans (by rw [size_alloc1]; omega) hp.below.size) (fun j hj => (hp.below.block j hj).trans (((Below.refl w2.heap.size w2).alloc (Nat.le_refl _) _).block j hj)); clear hp)
    have HM3 : Hid (MadeAt w w2.heap.size n (stepA (symA n R) 0 0) I (tri 0) w3) := ⟨HN3.out.congr rfl (fun i _ => by rw [show (stepA (symA n R) 0 0 i) = (fun _ => false) from by funext j; exact stepA_zero _ i j]; exact pm_false.symm), BX3.out, HB3.out, HI3.out⟩
    have hz2 : w.heap.size + 1 ≤ w1.heap.size := by omega
    have hz3 := HZ2.out
    clear HN3 HB3 BX3 HI3 HI0 HBX2 HB2 hnb k1 k2
    go_loopw [26] (fun i wr => ∃ v : Nat, v ≤ n ∧ i = .int .i64 v ∧ MadeAt w w2.heap.size n (stepA (symA n R) v 0) I (tri v) wr) (fun i _ => n - (intOf i).toNat)
    case atStart => exact ⟨0, Nat.zero_le _, rfl, HM3.out⟩
    case round =>
      obtain ⟨v, hv, rfl, hm⟩ := hrel
      have HM := Lib.hid hm
      clear hm
      by_cases hlt : v < n
      · go_wp2_with fail
        go_loopw [30] (fun i wr => ∃ u : Nat, u ≤ v ∧ i = .int .i64 u ∧ MadeAt w w2.heap.size n (stepA (symA n R) v u) I (tri v + u) wr) (fun i _ => v - (intOf i).toNat)
        case atStart => exact ⟨0, Nat.zero_le _, rfl, HM.out⟩
        case round =>
          rename World => w5
          obtain ⟨u, hu, rfl, hm⟩ := hrel
          have HM5 := Lib.hid hm
          clear hm
          by_cases hul : u < v
          · have ec := HOK.out.enter
            go_wp2_with fail
            refine (HOK.out.ask u v w5 hul hlt HM5.out.gen).mono ?_
            rintro e w6 ⟨rfl, hi6, ht6⟩
            clear ec
            have HM6 := Lib.hid (HM5.out.asked ht6 hz2 (Nat.le_refl _) hi6)
            clear hi6 ht6
            have r1 := symA_lt R hul hlt
            have r2 := symA_gt R hul hlt
            by_cases hr : R u v = true
            · rw [hr] at r1 r2 ⊢
              have HS : Hid (∀ i j, linkA (stepA (symA n R) v u) u v i j = stepA (symA n R) v (u + 1) i j) := fun i j => (stepA_link r1 r2 i j).symm
              clear r1 r2 hr
              go_wp2_with fail
              refine (link_any w2.heap.size n u v _ _ HM6.out.net (fun i => pm_lt _) (by omega) (by omega) (by omega)).mono ?_
              rintro e w7 ⟨rfl, hp7⟩
              have HM7 := Lib.hid ((HM6.out.linked HOK.out hp7 (Nat.le_refl _) (by omega) (by omega) (by omega) (by omega)).congr HS.out rfl)
              clear hp7
              go_wp2
              go_roundw
              case rel => exact ⟨u + 1, by omega, by go_num, HM7.out⟩
              case measure => simp [intOf]; omega
            · have hr' : R u v = false := by simpa using hr
              rw [hr'] at r1 r2 ⊢
              have HS : Hid (∀ i j, stepA (symA n R) v u i j = stepA (symA n R) v (u + 1) i j) := fun i j => (stepA_skip r1 r2 i j).symm
              clear r1 r2 hr hr'
              go_wp2
              go_roundw
              case rel => exact ⟨u + 1, by omega, by go_num, HM6.out.congr HS.out rfl⟩
              case measure => simp [intOf]; omega
          · obtain rfl : u = v := by omega
            go_wp2
            go_roundw
            case rel => exact ⟨u + 1, by omega, by go_num, HM5.out.congr (fun i j => stepA_next (symA_self n R) u i j) rfl⟩
            case measure => simp [intOf]; omega
      · obtain rfl : v = n := by omega
        go_wp2_with fail
        refine (graph_any w2.heap.size v _ _ HM.out.net (fun i => pm_lt _) hn1 hn).mono ?_
        rintro e w7 ⟨n7, a7, c7, rfl, ho7, hb7⟩
        have kr := (HM.out.res.keep hb7).1
        have kf := (HM.out.res.keep hb7).2
        have HB7 : Hid (Below w.heap.size w w7) := HM.out.bel.trans (hb7.mono (Nat.le_of_lt HM.out.res.lt))
        have hgl := HM.out.res.lt
        have HO7 := Lib.hid ho7
        clear ho7 hb7
        go_wp2
        refine bodyPost_ret (v := .tuple #[.agg #[.slice a7 n7 c7], .bool true]) (by simp [results, Try.results48, go_sem, cell_set_same _ kr]) rfl ⟨n7, a7, c7, by rw [HIN.out], ?_, HB7.out.setCell (by simp) _⟩
        rw [HG.out, ← step_end]
        exact (HO7.out.setBelow (by simp; omega) _).mono (by omega)
  · have hin' : inB N 1 16 = false := by simpa using hin
    have HIN := Lib.hid hin'
    rw [hin']
    clear hin hin' HR HGEN
    go_wp2
    refine bodyPost_ret (v := .tuple #[.agg #[.slice none 0 0], .bool false]) (by simp [results, Try.results48, go_sem, cell_set_same _ k1]) rfl ?_
    rw [HIN.out, genL_no]
    exact GaveGB.no (HB2.out.setCell (by simp) _)

set_option maxHeartbeats 3200000 in
set_option maxRecDepth 100000 in
theorem made1_any (nv : Value) (N : Int) (R : Nat → Nat → Bool) (w : World) (hgen : ∀ W, Below w.heap.size w W → Calls Try.prog 108 #[nv] W (GenPost W N R)) :
    Calls Try.prog 48 #[.int .i64 1, nv] w (GaveGB w (genL (inB N 1 16) N.toNat R) (inB N 1 16)) := by
  have HB0 : Hid (Below w.heap.size w (w.alloc (.cells #[.slice none 0 0] 30))) := (Below.refl _ _).alloc (Nat.le_refl _) _
  have HBX0 : Hid (BoxAt (w.alloc (.cells #[.slice none 0 0] 30)) w.heap.size (.slice none 0 0)) := BoxAt.new _ _ _
  have HGEN := Lib.hid hgen
  clear hgen
  go_enter Try.func48, Try.ntmps48
  go_wp2_with fail
  refine (generators_any _).mono ?_
  rintro e w1 ⟨rfl, hb1⟩
  have HB1 : Hid (Below w.heap.size w w1) := HB0.out.trans (hb1.mono HB0.out.size)
  have HBX1 := Lib.hid (HBX0.out.keep hb1)
  have hix := idx1
  clear hb1
  go_wp2_with fail
  refine (HGEN.out w1 HB1.out).mono ?_
  rintro e w2 ⟨near, rfl, hb2, hrule⟩
  have HB2 : Hid (Below w.heap.size w w2) := HB1.out.trans (hb2.mono HB1.out.size)
  have hbx2 := HBX1.out.keep hb2
  have HBX2 := Lib.hid hbx2
  have hz1 := HBX1.out.lt
  have HZ2 := Lib.hid hb2.size
  have k1 := hbx2.1
  have k2 := hbx2.2
  have HR := Lib.hid hrule
  clear hb2 hrule hbx2
  go_wp2_with fail
  refine (sizeOk_any _ _).mono ?_
  rintro e w' ⟨rfl, rfl⟩
  by_cases hin : inB N 1 16 = true
  · obtain ⟨n, rfl, hn1, hn⟩ := inB_nat hin (by omega)
    have hn1 : 1 ≤ n := by omega
    have hn : n ≤ 16 := by omega
    obtain ⟨K, lb, I, rfl, hok, hI0⟩ := HR.out hin
    rw [Int.toNat_natCast] at hok
    have HOK := Lib.hid hok
    have HI0 := Lib.hid hI0
    have HIN := Lib.hid hin
    have HG : Hid (genL (inB (n : Int) 1 16) (n : Int).toNat R = adjL n (symA n R)) := by show _ = _; rw [hin, genL_yes, Int.toNat_natCast]
    rw [hin]
    have hnb := netBlk_new w2 0 (fun _ => 0)
    clear hin hok hI0 HR HGEN
    go_wp2_with (refine wpList_store_net rfl 65 (.tmp 8) (.tmp 24) rfl w2.heap.size n (fun _ => 0) rfl rfl Try.sizeNet 0 (fun _ => 0) hnb ?_; intro w3 hp; have HN3 := Lib.hid hp.net; have HB3 : Hid (Below w.heap.size w w3) := (HB2.out.alloc HB2.out.size _).trans (hp.below.mono HB2.out.size); have BX3 : Hid (BoxAt w3 w.heap.size (.slice none 0 0)) := (HBX2.out.keep ((Below.refl _ _).alloc (Nat.le_refl _) _)).keepB hp.below (by have := HZ2.out; omega); have HI3 : Hid (I 0 w3) := HOK.out.keep 0 _ _ HI0.out (Nat.le_trans (by rw [size_alloc1]; omega) hp.below.size) (fun j hj => (hp.below.block j hj).trans (((Below.refl w2.heap.size w2).alloc (Nat.le_refl _) _).block j hj)); clear hp)
    have HM3 : Hid (MadeAt w w2.heap.size n (stepA (symA n R) 0 0) I (tri 0) w3) := ⟨HN3.out.congr rfl (fun i _ => by rw [show (stepA (symA n R) 0 0 i) = (fun _ => false) from by funext j; exact stepA_zero _ i j]; exact pm_false.symm), BX3.out, HB3.out, HI3.out⟩
    have hz2 : w.heap.size + 1 ≤ w1.heap.size := by omega
    have hz3 := HZ2.out
    clear HN3 HB3 BX3 HI3 HI0 HBX2 HB2 hnb k1 k2
    go_loopw [26] (fun i wr => ∃ v : Nat, v ≤ n ∧ i = .int .i64 v ∧ MadeAt w w2.heap.size n (stepA (symA n R) v 0) I (tri v) wr) (fun i _ => n - (intOf i).toNat)
    case atStart => exact ⟨0, Nat.zero_le _, rfl, HM3.out⟩
    case round =>
      obtain ⟨v, hv, rfl, hm⟩ := hrel
      have HM := Lib.hid hm
      clear hm
      by_cases hlt : v < n
      · go_wp2_with fail
        go_loopw [30] (fun i wr => ∃ u : Nat, u ≤ v ∧ i = .int .i64 u ∧ MadeAt w w2.heap.size n (stepA (symA n R) v u) I (tri v + u) wr) (fun i _ => v - (intOf i).toNat)
        case atStart => exact ⟨0, Nat.zero_le _, rfl, HM.out⟩
        case round =>
          rename World => w5
          obtain ⟨u, hu, rfl, hm⟩ := hrel
          have HM5 := Lib.hid hm
          clear hm
          by_cases hul : u < v
          · have ec := HOK.out.enter
            go_wp2_with fail
            refine (HOK.out.ask u v w5 hul hlt HM5.out.gen).mono ?_
            rintro e w6 ⟨rfl, hi6, ht6⟩
            clear ec
            have HM6 := Lib.hid (HM5.out.asked ht6 hz2 (Nat.le_refl _) hi6)
            clear hi6 ht6
            have r1 := symA_lt R hul hlt
            have r2 := symA_gt R hul hlt
            by_cases hr : R u v = true
            · rw [hr] at r1 r2 ⊢
              have HS : Hid (∀ i j, linkA (stepA (symA n R) v u) u v i j = stepA (symA n R) v (u + 1) i j) := fun i j => (stepA_link r1 r2 i j).symm
              clear r1 r2 hr
              go_wp2_with fail
              refine (link_any w2.heap.size n u v _ _ HM6.out.net (fun i => pm_lt _) (by omega) (by omega) (by omega)).mono ?_
              rintro e w7 ⟨rfl, hp7⟩
              have HM7 := Lib.hid ((HM6.out.linked HOK.out hp7 (Nat.le_refl _) (by omega) (by omega) (by omega) (by omega)).congr HS.out rfl)
              clear hp7
              go_wp2
              go_roundw
              case rel => exact ⟨u + 1, by omega, by go_num, HM7.out⟩
              case measure => simp [intOf]; omega
            · have hr' : R u v = false := by simpa using hr
              rw [hr'] at r1 r2 ⊢
              have HS : Hid (∀ i j, stepA (symA n R) v u i j = stepA (symA n R) v (u + 1) i j) := fun i j => (stepA_skip r1 r2 i j).symm
              clear r1 r2 hr hr'
              go_wp2
              go_roundw
              case rel => exact ⟨u + 1, by omega, by go_num, HM6.out.congr HS.out rfl⟩
              case measure => simp [intOf]; omega
          · obtain rfl : u = v := by omega
            go_wp2
            go_roundw
            case rel => exact ⟨u + 1, by omega, by go_num, HM5.out.congr (fun i j => stepA_next (symA_self n R) u i j) rfl⟩
            case measure => simp [intOf]; omega
      · obtain rfl : v = n := by omega
        go_wp2_with fail
        refine (graph_any w2.heap.size v _ _ HM.out.net (fun i => pm_lt _) hn1 hn).mono ?_
        rintro e w7 ⟨n7, a7, c7, rfl, ho7, hb7⟩
        have kr := (HM.out.res.keep hb7).1
        have kf := (HM.out.res.keep hb7).2
        have HB7 : Hid (Below w.heap.size w w7) := HM.out.bel.trans (hb7.mono (Nat.le_of_lt HM.out.res.lt))
        have hgl := HM.out.res.lt
        have HO7 := Lib.hid ho7
        clear ho7 hb7
        go_wp2
        refine bodyPost_ret (v := .tuple #[.agg #[.slice a7 n7 c7], .bool true]) (by simp [results, Try.results48, go_sem, cell_set_same _ kr]) rfl ⟨n7, a7, c7, by rw [HIN.out], ?_, HB7.out.setCell (by simp) _⟩
        rw [HG.out, ← step_end]
        exact (HO7.out.setBelow (by simp; omega) _).mono (by omega)
  · have hin' : inB N 1 16 = false := by simpa using hin
    have HIN := Lib.hid hin'
    rw [hin']
    clear hin hin' HR HGEN
    go_wp2
    refine bodyPost_ret (v := .tuple #[.agg #[.slice none 0 0], .bool false]) (by simp [results, Try.results48, go_sem, cell_set_same _ k1]) rfl ?_
    rw [HIN.out, genL_no]
    exact GaveGB.no (HB2.out.setCell (by simp) _)

set_option maxHeartbeats 3200000 in
set_option maxRecDepth 100000 in
theorem made2_any (nv : Value) (N : Int) (R : Nat → Nat → Bool) (w : World) (hgen : ∀ W, Below w.heap.size w W → Calls Try.prog 109 #[nv] W (GenPost W N R)) :
    Calls Try.prog 48 #[.int .i64 2, nv] w (GaveGB w (genL (inB N 1 16) N.toNat R) (inB N 1 16)) := by
  have HB0 : Hid (Below w.heap.size w (w.alloc (.cells #[.slice none 0 0] 30))) := (Below.refl _ _).alloc (Nat.le_refl _) _
  have HBX0 : Hid (BoxAt (w.alloc (.cells #[.slice none 0 0] 30)) w.heap.size (.slice none 0 0)) := BoxAt.new _ _ _
  have HGEN := Lib.hid hgen
  clear hgen
  go_enter Try.func48, Try.ntmps48
  go_wp2_with fail
  refine (generators_any _).mono ?_
  rintro e w1 ⟨rfl, hb1⟩
  have HB1 : Hid (Below w.heap.size w w1) := HB0.out.trans (hb1.mono HB0.out.size)
  have HBX1 := Lib.hid (HBX0.out.keep hb1)
  have hix := idx2
  clear hb1
  go_wp2_with fail
  refine (HGEN.out w1 HB1.out).mono ?_
  rintro e w2 ⟨near, rfl, hb2, hrule⟩
  have HB2 : Hid (Below w.heap.size w w2) := HB1.out.trans (hb2.mono HB1.out.size)
  have hbx2 := HBX1.out.keep hb2
  have HBX2 := Lib.hid hbx2
  have hz1 := HBX1.out.lt
  have HZ2 := Lib.hid hb2.size
  have k1 := hbx2.1
  have k2 := hbx2.2
  have HR := Lib.hid hrule
  clear hb2 hrule hbx2
  go_wp2_with fail
  refine (sizeOk_any _ _).mono ?_
  rintro e w' ⟨rfl, rfl⟩
  by_cases hin : inB N 1 16 = true
  · obtain ⟨n, rfl, hn1, hn⟩ := inB_nat hin (by omega)
    have hn1 : 1 ≤ n := by omega
    have hn : n ≤ 16 := by omega
    obtain ⟨K, lb, I, rfl, hok, hI0⟩ := HR.out hin
    rw [Int.toNat_natCast] at hok
    have HOK := Lib.hid hok
    have HI0 := Lib.hid hI0
    have HIN := Lib.hid hin
    have HG : Hid (genL (inB (n : Int) 1 16) (n : Int).toNat R = adjL n (symA n R)) := by show _ = _; rw [hin, genL_yes, Int.toNat_natCast]
    rw [hin]
    have hnb := netBlk_new w2 0 (fun _ => 0)
    clear hin hok hI0 HR HGEN
    go_wp2_with (refine wpList_store_net rfl 65 (.tmp 8) (.tmp 24) rfl w2.heap.size n (fun _ => 0) rfl rfl Try.sizeNet 0 (fun _ => 0) hnb ?_; intro w3 hp; have HN3 := Lib.hid hp.net; have HB3 : Hid (Below w.heap.size w w3) := (HB2.out.alloc HB2.out.size _).trans (hp.below.mono HB2.out.size); have BX3 : Hid (BoxAt w3 w.heap.size (.slice none 0 0)) := (HBX2.out.keep ((Below.refl _ _).alloc (Nat.le_refl _) _)).keepB hp.below (by have := HZ2.out; omega); have HI3 : Hid (I 0 w3) := HOK.out.keep 0 _ _ HI0.out (Nat.le_trans (by rw [size_alloc1]; omega) hp.below.size) (fun j hj => (hp.below.block j hj).trans (((Below.refl w2.heap.size w2).alloc (Nat.le_refl _) _).block j hj)); clear hp)
    have HM3 : Hid (MadeAt w w2.heap.size n (stepA (symA n R) 0 0) I (tri 0) w3) := ⟨HN3.out.congr rfl (fun i _ => by rw [show (stepA (symA n R) 0 0 i) = (fun _ => false) from by funext j; exact stepA_zero _ i j]; exact pm_false.symm), BX3.out, HB3.out, HI3.out⟩
    have hz2 : w.heap.size + 1 ≤ w1.heap.size := by omega
    have hz3 := HZ2.out
    clear HN3 HB3 BX3 HI3 HI0 HBX2 HB2 hnb k1 k2
    go_loopw [26] (fun i wr => ∃ v : Nat, v ≤ n ∧ i = .int .i64 v ∧ MadeAt w w2.heap.size n (stepA (symA n R) v 0) I (tri v) wr) (fun i _ => n - (intOf i).toNat)
    case atStart => exact ⟨0, Nat.zero_le _, rfl, HM3.out⟩
    case round =>
      obtain ⟨v, hv, rfl, hm⟩ := hrel
      have HM := Lib.hid hm
      clear hm
      by_cases hlt : v < n
      · go_wp2_with fail
        go_loopw [30] (fun i wr => ∃ u : Nat, u ≤ v ∧ i = .int .i64 u ∧ MadeAt w w2.heap.size n (stepA (symA n R) v u) I (tri v + u) wr) (fun i _ => v - (intOf i).toNat)
        case atStart => exact ⟨0, Nat.zero_le _, rfl, HM.out⟩
        case round =>
          rename World => w5
          obtain ⟨u, hu, rfl, hm⟩ := hrel
          have HM5 := Lib.hid hm
          clear hm
          by_cases hul : u < v
          · have ec := HOK.out.enter
            go_wp2_with fail
            refine (HOK.out.ask u v w5 hul hlt HM5.out.gen).mono ?_
            rintro e w6 ⟨rfl, hi6, ht6⟩
            clear ec
            have HM6 := Lib.hid (HM5.out.asked ht6 hz2 (Nat.le_refl _) hi6)
            clear hi6 ht6
            have r1 := symA_lt R hul hlt
            have r2 := symA_gt R hul hlt
            by_cases hr : R u v = true
            · rw [hr] at r1 r2 ⊢
              have HS : Hid (∀ i j, linkA (stepA (symA n R) v u) u v i j = stepA (symA n R) v (u + 1) i j) := fun i j => (stepA_link r1 r2 i j).symm
              clear r1 r2 hr
              go_wp2_with fail
              refine (link_any w2.heap.size n u v _ _ HM6.out.net (fun i => pm_lt _) (by omega) (by omega) (by omega)).mono ?_
              rintro e w7 ⟨rfl, hp7⟩
              have HM7 := Lib.hid ((HM6.out.linked HOK.out hp7 (Nat.le_refl _) (by omega) (by omega) (by omega) (by omega)).congr HS.out rfl)
              clear hp7
              go_wp2
              go_roundw
              case rel => exact ⟨u + 1, by omega, by go_num, HM7.out⟩
              case measure => simp [intOf]; omega
            · have hr' : R u v = false := by simpa using hr
              rw [hr'] at r1 r2 ⊢
              have HS : Hid (∀ i j, stepA (symA n R) v u i j = stepA (symA n R) v (u + 1) i j) := fun i j => (stepA_skip r1 r2 i j).symm
              clear r1 r2 hr hr'
              go_wp2
              go_roundw
              case rel => exact ⟨u + 1, by omega, by go_num, HM6.out.congr HS.out rfl⟩
              case measure => simp [intOf]; omega
          · obtain rfl : u = v := by omega
            go_wp2
            go_roundw
            case rel => exact ⟨u + 1, by omega, by go_num, HM5.out.congr (fun i j => stepA_next (symA_self n R) u i j) rfl⟩
            case measure => simp [intOf]; omega
      · obtain rfl : v = n := by omega
        go_wp2_with fail
        refine (graph_any w2.heap.size v _ _ HM.out.net (fun i => pm_lt _) hn1 hn).mono ?_
        rintro e w7 ⟨n7, a7, c7, rfl, ho7, hb7⟩
        have kr := (HM.out.res.keep hb7).1
        have kf := (HM.out.res.keep hb7).2
        have HB7 : Hid (Below w.heap.size w w7) := HM.out.bel.trans (hb7.mono (Nat.le_of_lt HM.out.res.lt))
        have hgl := HM.out.res.lt
        have HO7 := Lib.hid ho7
        clear ho7 hb7
        go_wp2
        refine bodyPost_ret (v := .tuple #[.agg #[.slice a7 n7 c7], .bool true]) (by simp [results, Try.results48, go_sem, cell_set_same _ kr]) rfl ⟨n7, a7, c7, by rw [HIN.out], ?_, HB7.out.setCell (by simp) _⟩
        rw [HG.out, ← step_end]
        exact (HO7.out.setBelow (by simp; omega) _).mono (by omega)
  · have hin' : inB N 1 16 = false := by simpa using hin
    have HIN := Lib.hid hin'
    rw [hin']
    clear hin hin' HR HGEN
    go_wp2
    refine bodyPost_ret (v := .tuple #[.agg #[.slice none 0 0], .bool false]) (by simp [results, Try.results48, go_sem, cell_set_same _ k1]) rfl ?_
    rw [HIN.out, genL_no]
    exact GaveGB.no (HB2.out.setCell (by simp) _)

end Go.Proofs.Ytojbaepcflkgeaa
