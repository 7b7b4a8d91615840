/- The texts GR5, GR6, GI1, joined. -/
import Derived.Test.YtojbaepcflkgeaaQGR3
import Derived.Test.YtojbaepcflkgeaaQGR1
import Derived.Test.YtojbaepcflkgeaaQGM3

/- Walks: the graph that is made of a rule. Written by program (tools/gen/made.py). -/
namespace Go.Proofs.Ytojbaepcflkgeaa
open Go.RowKit

set_option maxHeartbeats 3200000 in
set_option maxRecDepth 100000 in
theorem made3_any (nv : Value) (N : Int) (R : Nat → Nat → Bool) (w : World) (hgen : ∀ W, Below w.heap.size w W → Calls Try.prog 110 #[nv] W (GenPost W N R)) :
    Calls Try.prog 48 #[.int .i64 3, nv] w (GaveGB w (genL (inB N 1 16) N.toNat R) (inB N 1 16)) := by
  have HB0 : Hid (Below w.heap.size w (w.alloc (.cells #[.slice none 0 0] 30))) := (Below.refl _ _).alloc (Nat.le_refl _) _
  have HBX0 : Hid (BoxAt (w.alloc (.cells #[.slice none 0 0] 30)) w.heap.size (.slice none 0 0)) := BoxAt.new _ _ _
  have HGEN := Lib.hid hgen
  clear hgen
  go_enter Try.func48, Try.ntmps48
  go_wp2_with fail
  refine (generators_any _).mono ?_
  rintro e w1 ⟨rfl, hb1⟩
  have HB1 : Hid (Below w.heap.size w w1) := HB0.out.trans (hb1.mono HB0.out.size)
  have HBX1 := Lib.hid (HBX0.out.keep hb1)
  have hix := idx3
  clear hb1
  go_wp2_with fail
  refine (HGEN.out w1 HB1.out).mono ?_
  rintro e w2 ⟨near, rfl, hb2, hrule⟩
  have HB2 : Hid (Below w.heap.size w w2) := HB1.out.trans (hb2.mono HB1.out.size)
  have hbx2 := HBX1.out.keep hb2
  have HBX2 := Lib.hid hbx2
  have hz1 := HBX1.out.lt
  have HZ2 := Lib.hid hb2.size
  have k1 := hbx2.1
  have k2 := hbx2.2
  have HR := Lib.hid hrule
  clear hb2 hrule hbx2
  go_wp2_with fail
  refine (sizeOk_any _ _).mono ?_
  rintro e w' ⟨rfl, rfl⟩
  by_cases hin : inB N 1 16 = true
  · obtain ⟨n, rfl, hn1, hn⟩ := inB_nat hin (by omega)
    have hn1 : 1 ≤ n := by omega
    have hn : n ≤ 16 := by omega
    obtain ⟨K, lb, I, rfl, hok, hI0⟩ := HR.out hin
    rw [Int.toNat_natCast] at hok
    have HOK := Lib.hid hok
    have HI0 := Lib.hid hI0
    have HIN := Lib.hid hin
    have HG : Hid (genL (inB (n : Int) 1 16) (n : Int).toNat R = adjL n (symA n R)) := by show _ = _; rw [hin, genL_yes, Int.toNat_natCast]
    rw [hin]
    have hnb := netBlk_new w2 0 (fun _ => 0)
    clear hin hok hI0 HR HGEN
    go_wp2_with (refine wpList_store_net rfl 65 (.tmp 8) (.tmp 24) rfl w2.heap.size n (fun _ => 0) rfl rfl Try.sizeNet 0 (fun _ => 0) hnb ?_; intro w3 hp; have HN3 := Lib.hid hp.net; have HB3 : Hid (Below w.heap.size w w3) := (HB2.out.alloc HB2.out.size _).trans (hp.below.mono HB2.out.size); have BX3 : Hid (BoxAt w3 w.heap.size (.slice none 0 0)) := (HBX2.out.keep ((Below.refl _ _).alloc (Nat.le_refl _) _)).keepB hp.below (by have := HZ2.out; omega); have HI3 : Hid (I 0 w3) := HOK.out.keep 0 _ _ HI0.out (Nat.le_trans (by rw [size_alloc1]; omega) hp.below.size) (fun j hj => (hp.below.block j hj).trans (((Below.refl w2.heap.size w2).alloc (Nat.le_refl _) _).block j hj)); clear hp)
    have HM3 : Hid (MadeAt w w2.heap.size n (stepA (symA n R) 0 0) I (tri 0) w3) := ⟨HN3.out.congr rfl (fun i _ => by rw [show (stepA (symA n R) 0 0 i) = (fun _ => false) from by funext j; exact stepA_zero _ i j]; exact pm_false.symm), BX3.out, HB3.out, HI3.out⟩
    have hz2 : w.heap.size + 1 ≤ w1.heap.size := by omega
    have hz3 := HZ2.out
    clear HN3 HB3 BX3 HI3 HI0 HBX2 HB2 hnb k1 k2
    go_loopw [26] (fun i wr => ∃ v : Nat, v ≤ n ∧ i = .int .i64 v ∧ MadeAt w w2.heap.size n (stepA (symA n R) v 0) I (tri v) wr) (fun i _ => n - (intOf i).toNat)
    case atStart => exact ⟨0, Nat.zero_le _, rfl, HM3.out⟩
    case round =>
      obtain ⟨v, hv, rfl, hm⟩ := hrel
      have HM := Lib.hid hm
      clear hm
      by_cases hlt : v < n
      · go_wp2_with fail
        go_loopw [30] (fun i wr => ∃ u : Nat, u ≤ v ∧ i = .int .i64 u ∧ MadeAt w w2.heap.size n (stepA (symA n R) v u) I (tri v + u) wr) (fun i _ => v - (intOf i).toNat)
        case atStart => exact ⟨0, Nat.zero_le _, rfl, HM.out⟩
        case round =>
          rename World => w5
          obtain ⟨u, hu, rfl, hm⟩ := hrel
          have HM5 := Lib.hid hm
          clear hm
          by_cases hul : u < v
          · have ec := HOK.out.enter
            go_wp2_with fail
            refine (HOK.out.ask u v w5 hul hlt HM5.out.gen).mono ?_
            rintro e w6 ⟨rfl, hi6, ht6⟩
            clear ec
            have HM6 := Lib.hid (HM5.out.asked ht6 hz2 (Nat.le_refl _) hi6)
            clear hi6 ht6
            have r1 := symA_lt R hul hlt
            have r2 := symA_gt R hul hlt
            by_cases hr : R u v = true
            · rw [hr] at r1 r2 ⊢
              have HS : Hid (∀ i j, linkA (stepA (symA n R) v u) u v i j = stepA (symA n R) v (u + 1) i j) := fun i j => (stepA_link r1 r2 i j).symm
              clear r1 r2 hr
              go_wp2_with fail
              refine (link_any w2.heap.size n u v _ _ HM6.out.net (fun i => pm_lt _) (by omega) (by omega) (by omega)).mono ?_
              rintro e w7 ⟨rfl, hp7⟩
              have HM7 := Lib.hid ((HM6.out.linked HOK.out hp7 (Nat.le_refl _) (by omega) (by omega) (by omega) (by omega)).congr HS.out rfl)
              clear hp7
              go_wp2
              go_roundw
              case rel => exact ⟨u + 1, by omega, by go_num, HM7.out⟩
              case measure => simp [intOf]; omega
            · have hr' : R u v = false := by simpa using hr
              rw [hr'] at r1 r2 ⊢
              have HS : Hid (∀ i j, stepA (symA n R) v u i j = stepA (symA n R) v (u + 1) i j) := fun i j => (stepA_skip r1 r2 i j).symm
              clear r1 r2 hr hr'
              go_wp2
              go_roundw
              case rel => exact ⟨u + 1, by omega, by go_num, HM6.out.congr HS.out rfl⟩
              case measure => simp [intOf]; omega
          · obtain rfl : u = v := by omega
            go_wp2
            go_roundw
            case rel => exact ⟨u + 1, by omega, by go_num, HM5.out.congr (fun i j => stepA_next (symA_self n R) u i j) rfl⟩
            case measure => simp [intOf]; omega
      · obtain rfl : v = n := by omega
        go_wp2_with fail
        refine (graph_any w2.heap.size v _ _ HM.out.net (fun i => pm_lt _) hn1 hn).mono ?_
        rintro e w7 ⟨n7, a7, c7, rfl, ho7, hb7⟩
        have kr := (HM.out.res.keep hb7).1
        have kf := (HM.out.res.keep hb7).2
        have HB7 : Hid (Below w.heap.size w w7) := HM.out.bel.trans (hb7.mono (Nat.le_of_lt HM.out.res.lt))
        have hgl := HM.out.res.lt
        have HO7 := Lib.hid ho7
        clear ho7 hb7
        go_wp2
        refine bodyPost_ret (v := .tuple #[.agg #[.slice a7 n7 c7], .bool true]) (by simp [results, Try.results48, go_sem, cell_set_same _ kr]) rfl ⟨n7, a7, c7, by rw [HIN.out], ?_, HB7.out.setCell (by simp) _⟩
        rw [HG.out, ← step_end]
        exact (HO7.out.setBelow (by simp; omega) _).mono (by omega)
  · have hin' : inB N 1 16 = false := by simpa using hin
    have HIN := Lib.hid hin'
    rw [hin']
    clear hin hin' HR HGEN
    go_wp2
    refine bodyPost_ret (v := .tuple #[.agg #[.slice none 0 0], .bool false]) (by simp [results, Try.results48, go_sem, cell_set_same _ k1]) rfl ?_
    rw [HIN.out, genL_no]
    exact GaveGB.no (HB2.out.setCell (by simp) _)

set_option maxHeartbeats 3200000 in
set_option maxRecDepth 100000 in
theorem made4_any (nv : Value) (N : Int) (R : Nat → Nat → Bool) (w : World) (hgen : ∀ W, Below w.heap.size w W → Calls Try.prog 111 #[nv] W (GenPost W N R)) :
    Calls Try.prog 48 #[.int .i64 4, nv] w (GaveGB w (genL (inB N 1 16) N.toNat R) (inB N 1 16)) := by
  have HB0 : Hid (Below w.heap.size w (w.alloc (.cells #[.slice none 0 0] 30))) := (Below.refl _ _).alloc (Nat.le_refl _) _
  have HBX0 : Hid (BoxAt (w.alloc (.cells #[.slice none 0 0] 30)) w.heap.size (.slice none 0 0)) := BoxAt.new _ _ _
  have HGEN := Lib.hid hgen
  clear hgen
  go_enter Try.func48, Try.ntmps48
  go_wp2_with fail
  refine (generators_any _).mono ?_
  rintro e w1 ⟨rfl, hb1⟩
  have HB1 : Hid (Below w.heap.size w w1) := HB0.out.trans (hb1.mono HB0.out.size)
  have HBX1 := Lib.hid (HBX0.out.keep hb1)
  have hix := idx4
  clear hb1
  go_wp2_with fail
  refine (HGEN.out w1 HB1.out).mono ?_
  rintro e w2 ⟨near, rfl, hb2, hrule⟩
  have HB2 : Hid (Below w.heap.size w w2) := HB1.out.trans (hb2.mono HB1.out.size)
  have hbx2 := HBX1.out.keep hb2
  have HBX2 := Lib.hid hbx2
  have hz1 := HBX1.out.lt
  have HZ2 := Lib.hid hb2.size
  have k1 := hbx2.1
  have k2 := hbx2.2
  have HR := Lib.hid hrule
  clear hb2 hrule hbx2
  go_wp2_with fail
  refine (sizeOk_any _ _).mono ?_
  rintro e w' ⟨rfl, rfl⟩
  by_cases hin : inB N 1 16 = true
  · obtain ⟨n, rfl, hn1, hn⟩ := inB_nat hin (by omega)
    have hn1 : 1 ≤ n := by omega
    have hn : n ≤ 16 := by omega
    obtain ⟨K, lb, I, rfl, hok, hI0⟩ := HR.out hin
    rw [Int.toNat_natCast] at hok
    have HOK := Lib.hid hok
    have HI0 := Lib.hid hI0
    have HIN := Lib.hid hin
    have HG : Hid (genL (inB (n : Int) 1 16) (n : Int).toNat R = adjL n (symA n R)) := by show _ = _; rw [hin, genL_yes, Int.toNat_natCast]
    rw [hin]
    have hnb := netBlk_new w2 0 (fun _ => 0)
    clear hin hok hI0 HR HGEN
    go_wp2_with (refine wpList_store_net rfl 65 (.tmp 8) (.tmp 24) rfl w2.heap.size n (fun _ => 0) rfl rfl Try.sizeNet 0 (fun _ => 0) hnb ?_; intro w3 hp; have HN3 := Lib.hid hp.net; have HB3 : Hid (Below w.heap.size w w3) := (HB2.out.alloc HB2.out.size _).trans (hp.below.mono HB2.out.size); have BX3 : Hid (BoxAt w3 w.heap.size (.slice none 0 0)) := (HBX2.out.keep ((Below.refl _ _).alloc (Nat.le_refl _) _)).keepB hp.below (by have := HZ2.out; omega); have HI3 : Hid (I 0 w3) := HOK.out.keep 0 _ _ HI0.out (Nat.le_trans (by rw [size_alloc1]; omega) hp.below.size) (fun j hj => (hp.below.block j hj).trans (((Below.refl w2.heap.size w2).alloc (Nat.le_refl _) _).block j hj)); clear hp)
    have HM3 : Hid (MadeAt w w2.heap.size n (stepA (symA n R) 0 0) I (tri 0) w3) := ⟨HN3.out.congr rfl (fun i _ => by rw [show (stepA (symA n R) 0 0 i) = (fun _ => false) from by funext j; exact stepA_zero _ i j]; exact pm_false.symm), BX3.out, HB3.out, HI3.out⟩
    have hz2 : w.heap.size + 1 ≤ w1.heap.size := by omega
    have hz3 := HZ2.out
    clear HN3 HB3 BX3 HI3 HI0 HBX2 HB2 hnb k1 k2
    go_loopw [26] (fun i wr => ∃ v : Nat, v ≤ n ∧ i = .int .i64 v ∧ MadeAt w w2.heap.size n (stepA (symA n R) v 0) I (tri v) wr) (fun i _ => n - (intOf i).toNat)
    case atStart => exact ⟨0, Nat.zero_le _, rfl, HM3.out⟩
    case round =>
      obtain ⟨v, hv, rfl, hm⟩ := hrel
      have HM := Lib.hid hm
      clear hm
      by_cases hlt : v < n
      · go_wp2_with fail
        go_loopw [30] (fun i wr => ∃ u : Nat, u ≤ v ∧ i = .int .i64 u ∧ MadeAt w w2.heap.size n (stepA (symA n R) v u) I (tri v + u) wr) (fun i _ => v - (intOf i).toNat)
        case atStart => exact ⟨0, Nat.zero_le _, rfl, HM.out⟩
        case round =>
          rename World => w5
          obtain ⟨u, hu, rfl, hm⟩ := hrel
          have HM5 := Lib.hid hm
          clear hm
          by_cases hul : u < v
          · have ec := HOK.out.enter
            go_wp2_with fail
            refine (HOK.out.ask u v w5 hul hlt HM5.out.gen).mono ?_
            rintro e w6 ⟨rfl, hi6, ht6⟩
            clear ec
            have HM6 := Lib.hid (HM5.out.asked ht6 hz2 (Nat.le_refl _) hi6)
            clear hi6 ht6
            have r1 := symA_lt R hul hlt
            have r2 := symA_gt R hul hlt
            by_cases hr : R u v = true
            · rw [hr] at r1 r2 ⊢
              have HS : Hid (∀ i j, linkA (stepA (symA n R) v u) u v i j = stepA (symA n R) v (u + 1) i j) := fun i j => (stepA_link r1 r2 i j).symm
              clear r1 r2 hr
              go_wp2_with fail
              refine (link_any w2.heap.size n u v _ _ HM6.out.net (fun i => pm_lt _) (by omega) (by omega) (by omega)).mono ?_
              rintro e w7 ⟨rfl, hp7⟩
              have HM7 := Lib.hid ((HM6.out.linked HOK.out hp7 (Nat.le_refl _) (by omega) (by omega) (by omega) (by omega)).congr HS.out rfl)
              clear hp7
              go_wp2
              go_roundw
              case rel => exact ⟨u + 1, by omega, by go_num, HM7.out⟩
              case measure => simp [intOf]; omega
            · have hr' : R u v = false := by simpa using hr
              rw [hr'] at r1 r2 ⊢
              have HS : Hid (∀ i j, stepA (symA n R) v u i j = stepA (symA n R) v (u + 1) i j) := fun i j => (stepA_skip r1 r2 i j).symm
              clear r1 r2 hr hr'
              go_wp2
              go_roundw
              case rel => exact ⟨u + 1, by omega, by go_num, HM6.out.congr HS.out rfl⟩
              case measure => simp [intOf]; omega
          · obtain rfl : u = v := by omega
            go_wp2
            go_roundw
            case rel => exact ⟨u + 1, by omega, by go_num, HM5.out.congr (fun i j => stepA_next (symA_self n R) u i j) rfl⟩
            case measure => simp [intOf]; omega
      · obtain rfl : v = n := by omega
        go_wp2_with fail
        refine (graph_any w2.heap.size v _ _ HM.out.net (fun i => pm_lt _) hn1 hn).mono ?_
        rintro e w7 ⟨n7, a7, c7, rfl, ho7, hb7⟩
        have kr := (HM.out.res.keep hb7).1
        have kf := (HM.out.res.keep hb7).2
        have HB7 : Hid (Below w.heap.size w w7) := HM.out.bel.trans (hb7.mono (Nat.le_of_lt HM.out.res.lt))
        have hgl := HM.out.res.lt
        have HO7 := Lib.hid ho7
        clear ho7 hb7
        go_wp2
        refine bodyPost_ret (v := .tuple #[.agg #[.slice a7 n7 c7], .bool true]) (by simp [results, Try.results48, go_sem, cell_set_same _ kr]) rfl ⟨n7, a7, c7, by rw [HIN.out], ?_, HB7.out.setCell (by simp) _⟩
        rw [HG.out, ← step_end]
        exact (HO7.out.setBelow (by simp; omega) _).mono (by omega)
  · have hin' : inB N 1 16 = false := by simpa using hin
    have HIN := Lib.hid hin'
    rw [hin']
    clear hin hin' HR HGEN
    go_wp2
    refine bodyPost_ret (v := .tuple #[.agg #[.slice none 0 0], .bool false]) (by simp [results, Try.results48, go_sem, cell_set_same _ k1]) rfl ?_
    rw [HIN.out, genL_no]
    exact GaveGB.no (HB2.out.setCell (by simp) _)

set_option maxHeartbeats 3200000 in
set_option maxRecDepth 100000 in
theorem made5_any (nv : Value) (N : Int) (R : Nat → Nat → Bool) (w : World) (hgen : ∀ W, Below w.heap.size w W → Calls Try.prog 112 #[nv] W (GenPost W N R)) :
    Calls Try.prog 48 #[.int .i64 5, nv] w (GaveGB w (genL (inB N 1 16) N.toNat R) (inB N 1 16)) := by
  have HB0 : Hid (Below w.heap.size w (w.alloc (.cells #[.slice none 0 0] 30))) := (Below.refl _ _).alloc (Nat.le_refl _) _
  have HBX0 : Hid (BoxAt (w.alloc (.cells #[.slice none 0 0] 30)) w.heap.size (.slice none 0 0)) := BoxAt.new _ _ _
  have HGEN := Lib.hid hgen
  clear hgen
  go_enter Try.func48, Try.ntmps48
  go_wp2_with fail
  refine (generators_any _).mono ?_
  rintro e w1 ⟨rfl, hb1⟩
  have HB1 : Hid (Below w.heap.size w w1) := HB0.out.trans (hb1.mono HB0.out.size)
  have HBX1 := Lib.hid (HBX0.out.keep hb1)
  have hix := idx5
  clear hb1
  go_wp2_with fail
  refine (HGEN.out w1 HB1.out).mono ?_
  rintro e w2 ⟨near, rfl, hb2, hrule⟩
  have HB2 : Hid (Below w.heap.size w w2) := HB1.out.trans (hb2.mono HB1.out.size)
  have hbx2 := HBX1.out.keep hb2
  have HBX2 := Lib.hid hbx2
  have hz1 := HBX1.out.lt
  have HZ2 := Lib.hid hb2.size
  have k1 := hbx2.1
  have k2 := hbx2.2
  have HR := Lib.hid hrule
  clear hb2 hrule hbx2
  go_wp2_with fail
  refine (sizeOk_any _ _).mono ?_
  rintro e w' ⟨rfl, rfl⟩
  by_cases hin : inB N 1 16 = true
  · obtain ⟨n, rfl, hn1, hn⟩ := inB_nat hin (by omega)
    have hn1 : 1 ≤ n := by omega
    have hn : n ≤ 16 := by omega
    obtain ⟨K, lb, I, rfl, hok, hI0⟩ := HR.out hin
    rw [Int.toNat_natCast] at hok
    have HOK := Lib.hid hok
    have HI0 := Lib.hid hI0
    have HIN := Lib.hid hin
    have HG : Hid (genL (inB (n : Int) 1 16) (n : Int).toNat R = adjL n (symA n R)) := by show _ = _; rw [hin, genL_yes, Int.toNat_natCast]
    rw [hin]
    have hnb := netBlk_new w2 0 (fun _ => 0)
    clear hin hok hI0 HR HGEN
    go_wp2_with (refine wpList_store_net rfl 65 (.tmp 8) (.tmp 24) rfl w2.heap.size n (fun _ => 0) rfl rfl Try.sizeNet 0 (fun _ => 0) hnb ?_; intro w3 hp; have HN3 := Lib.hid hp.net; have HB3 : Hid (Below w.heap.size w w3) := (HB2.out.alloc HB2.out.size _).trans (hp.below.mono HB2.out.size); have BX3 : Hid (BoxAt w3 w.heap.size (.slice none 0 0)) := (HBX2.out.keep ((Below.refl _ _).alloc (Nat.le_refl _) _)).keepB hp.below (by have := HZ2.out; omega); have HI3 : Hid (I 0 w3) := HOK.out.keep 0 _ _ HI0.out (Nat.le_trans (by rw [size_alloc1]; omega) hp.below.size) (fun j hj => (hp.below.block j hj).trans (((Below.refl w2.heap.size w2).alloc (Nat.le_refl _) _).block j hj)); clear hp)
    have HM3 : Hid (MadeAt w w2.heap.size n (stepA (symA n R) 0 0) I (tri 0) w3) := ⟨HN3.out.congr rfl (fun i _ => by rw [show (stepA (symA n R) 0 0 i) = (fun _ => false) from by funext j; exact stepA_zero _ i j]; exact pm_false.symm), BX3.out, HB3.out, HI3.out⟩
    have hz2 : w.heap.size + 1 ≤ w1.heap.size := by omega
    have hz3 := HZ2.out
    clear HN3 HB3 BX3 HI3 HI0 HBX2 HB2 hnb k1 k2
    go_loopw [26] (fun i wr => ∃ v : Nat, v ≤ n ∧ i = .int .i64 v ∧ MadeAt w w2.heap.size n (stepA (symA n R) v 0) I (tri v) wr) (fun i _ => n - (intOf i).toNat)
    case atStart => exact ⟨0, Nat.zero_le _, rfl, HM3.out⟩
    case round =>
      obtain ⟨v, hv, rfl, hm⟩ := hrel
      have HM := Lib.hid hm
      clear hm
      by_cases hlt : v < n
      · go_wp2_with fail
        go_loopw [30] (fun i wr => ∃ u : Nat, u ≤ v ∧ i = .int .i64 u ∧ MadeAt w w2.heap.size n (stepA (symA n R) v u) I (tri v + u) wr) (fun i _ => v - (intOf i).toNat)
        case atStart => exact ⟨0, Nat.zero_le _, rfl, HM.out⟩
        case round =>
          rename World => w5
          obtain ⟨u, hu, rfl, hm⟩ := hrel
          have HM5 := Lib.hid hm
          clear hm
          by_cases hul : u < v
          · have ec := HOK.out.enter
            go_wp2_with fail
            refine (HOK.out.ask u v w5 hul hlt HM5.out.gen).mono ?_
            rintro e w6 ⟨rfl, hi6, ht6⟩
            clear ec
            have HM6 := Lib.hid (HM5.out.asked ht6 hz2 (Nat.le_refl _) hi6)
            clear hi6 ht6
            have r1 := symA_lt R hul hlt
            have r2 := symA_gt R hul hlt
            by_cases hr : R u v = true
            · rw [hr] at r1 r2 ⊢
              have HS : Hid (∀ i j, linkA (stepA (symA n R) v u) u v i j = stepA (symA n R) v (u + 1) i j) := fun i j => (stepA_link r1 r2 i j).symm
              clear r1 r2 hr
              go_wp2_with fail
              refine (link_any w2.heap.size n u v _ _ HM6.out.net (fun i => pm_lt _) (by omega) (by omega) (by omega)).mono ?_
              rintro e w7 ⟨rfl, hp7⟩
              have HM7 := Lib.hid ((HM6.out.linked HOK.out hp7 (Nat.le_refl _) (by omega) (by omega) (by omega) (by omega)).congr HS.out rfl)
              clear hp7
              go_wp2
              go_roundw
              case rel => exact ⟨u + 1, by omega, by go_num, HM7.out⟩
              case measure => simp [intOf]; omega
            · have hr' : R u v = false := by simpa using hr
              rw [hr'] at r1 r2 ⊢
              have HS : Hid (∀ i j, stepA (symA n R) v u i j = stepA (symA n R) v (u + 1) i j) := fun i j => (stepA_skip r1 r2 i j).symm
              clear r1 r2 hr hr'
              go_wp2
              go_roundw
              case rel => exact ⟨u + 1, by omega, by go_num, HM6.out.congr HS.out rfl⟩
              case measure => simp [intOf]; omega
          · obtain rfl : u = v := by omega
            go_wp2
            go_roundw
            case rel => exact ⟨u + 1, by omega, by go_num, HM5.out.congr (fun i j => stepA_next (symA_self n R) u i j) rfl⟩
            case measure => simp [intOf]; omega
      · obtain rfl : v = n := by omega
        go_wp2_with fail
        refine (graph_any w2.heap.size v _ _ HM.out.net (fun i => pm_lt _) hn1 hn).mono ?_
        rintro e w7 ⟨n7, a7, c7, rfl, ho7, hb7⟩
        have kr := (HM.out.res.keep hb7).1
        have kf := (HM.out.res.keep hb7).2
        have HB7 : Hid (Below w.heap.size w w7) := HM.out.bel.trans (hb7.mono (Nat.le_of_lt HM.out.res.lt))
        have hgl := HM.out.res.lt
        have HO7 := Lib.hid ho7
        clear ho7 hb7
        go_wp2
        refine bodyPost_ret (v := .tuple #[.agg #[.slice a7 n7 c7], .bool true]) (by simp [results, Try.results48, go_sem, cell_set_same _ kr]) rfl ⟨n7, a7, c7, by rw [HIN.out], ?_, HB7.out.setCell (by simp) _⟩
        rw [HG.out, ← step_end]
        exact (HO7.out.setBelow (by simp; omega) _).mono (by omega)
  · have hin' : inB N 1 16 = false := by simpa using hin
    have HIN := Lib.hid hin'
    rw [hin']
    clear hin hin' HR HGEN
    go_wp2
    refine bodyPost_ret (v := .tuple #[.agg #[.slice none 0 0], .bool false]) (by simp [results, Try.results48, go_sem, cell_set_same _ k1]) rfl ?_
    rw [HIN.out, genL_no]
    exact GaveGB.no (HB2.out.setCell (by simp) _)

end Go.Proofs.Ytojbaepcflkgeaa

/- Walks: the graph that is made of a rule. Written by program (tools/gen/made.py). -/
namespace Go.Proofs.Ytojbaepcflkgeaa
open Go.RowKit

set_option maxHeartbeats 3200000 in
set_option maxRecDepth 100000 in
theorem made6_any (nv : Value) (N : Int) (R : Nat → Nat → Bool) (w : World) (hgen : ∀ W, Below w.heap.size w W → Calls Try.prog 113 #[nv] W (GenPost W N R)) :
    Calls Try.prog 48 #[.int .i64 6, nv] w (GaveGB w (genL (inB N 1 16) N.toNat R) (inB N 1 16)) := by
  have HB0 : Hid (Below w.heap.size w (w.alloc (.cells #[.slice none 0 0] 30))) := (Below.refl _ _).alloc (Nat.le_refl _) _
  have HBX0 : Hid (BoxAt (w.alloc (.cells #[.slice none 0 0] 30)) w.heap.size (.slice none 0 0)) := BoxAt.new _ _ _
  have HGEN := Lib.hid hgen
  clear hgen
  go_enter Try.func48, Try.ntmps48
  go_wp2_with fail
  refine (generators_any _).mono ?_
  rintro e w1 ⟨rfl, hb1⟩
  have HB1 : Hid (Below w.heap.size w w1) := HB0.out.trans (hb1.mono HB0.out.size)
  have HBX1 := Lib.hid (HBX0.out.keep hb1)
  have hix := idx6
  clear hb1
  go_wp2_with fail
  refine (HGEN.out w1 HB1.out).mono ?_
  rintro e w2 ⟨near, rfl, hb2, hrule⟩
  have HB2 : Hid (Below w.heap.size w w2) := HB1.out.trans (hb2.mono HB1.out.size)
  have hbx2 := HBX1.out.keep hb2
  have HBX2 := Lib.hid hbx2
  have hz1 := HBX1.out.lt
  have HZ2 := Lib.hid hb2.size
  have k1 := hbx2.1
  have k2 := hbx2.2
  have HR := Lib.hid hrule
  clear hb2 hrule hbx2
  go_wp2_with fail
  refine (sizeOk_any _ _).mono ?_
  rintro e w' ⟨rfl, rfl⟩
  by_cases hin : inB N 1 16 = true
  · obtain ⟨n, rfl, hn1, hn⟩ := inB_nat hin (by omega)
    have hn1 : 1 ≤ n := by omega
    have hn : n ≤ 16 := by omega
    obtain ⟨K, lb, I, rfl, hok, hI0⟩ := HR.out hin
    rw [Int.toNat_natCast] at hok
    have HOK := Lib.hid hok
    have HI0 := Lib.hid hI0
    have HIN := Lib.hid hin
    have HG : Hid (genL (inB (n : Int) 1 16) (n : Int).toNat R = adjL n (symA n R)) := by show _ = _; rw [hin, genL_yes, Int.toNat_natCast]
    rw [hin]
    have hnb := netBlk_new w2 0 (fun _ => 0)
    clear hin hok hI0 HR HGEN
    go_wp2_with (refine wpList_store_net rfl 65 (.tmp 8) (.tmp 24) rfl w2.heap.size n (fun _ => 0) rfl rfl Try.sizeNet 0 (fun _ => 0) hnb ?_; intro w3 hp; have HN3 := Lib.hid hp.net; have HB3 : Hid (Below w.heap.size w w3) := (HB2.out.alloc HB2.out.size _).trans (hp.below.mono HB2.out.size); have BX3 : Hid (BoxAt w3 w.heap.size (.slice none 0 0)) := (HBX2.out.keep ((Below.refl _ _).alloc (Nat.le_refl _) _)).keepB hp.below (by have := HZ2.out; omega); have HI3 : Hid (I 0 w3) := HOK.out.keep 0 _ _ HI0.out (Nat.le_trans (by rw [size_alloc1]; omega) hp.below.size) (fun j hj => (hp.below.block j hj).trans (((Below.refl w2.heap.size w2).alloc (Nat.le_refl _) _).block j hj)); clear hp)
    have HM3 : Hid (MadeAt w w2.heap.size n (stepA (symA n R) 0 0) I (tri 0) w3) := ⟨HN3.out.congr rfl (fun i _ => by rw [show (stepA (symA n R) 0 0 i) = (fun _ => false) from by funext j; exact stepA_zero _ i j]; exact pm_false.symm), BX3.out, HB3.out, HI3.out⟩
    have hz2 : w.heap.size + 1 ≤ w1.heap.size := by omega
    have hz3 := HZ2.out
    clear HN3 HB3 BX3 HI3 HI0 HBX2 HB2 hnb k1 k2
    go_loopw [26] (fun i wr => ∃ v : Nat, v ≤ n ∧ i = .int .i64 v ∧ MadeAt w w2.heap.size n (stepA (symA n R) v 0) I (tri v) wr) (fun i _ => n - (intOf i).toNat)
    case atStart => exact ⟨0, Nat.zero_le _, rfl, HM3.out⟩
    case round =>
      obtain ⟨v, hv, rfl, hm⟩ := hrel
      have HM := Lib.hid hm
      clear hm
      by_cases hlt : v < n
      · go_wp2_with fail
        go_loopw [30] (fun i wr => ∃ u : Nat, u ≤ v ∧ i = .int .i64 u ∧ MadeAt w w2.heap.size n (stepA (symA n R) v u) I (tri v + u) wr) (fun i _ => v - (intOf i).toNat)
        case atStart => exact ⟨0, Nat.zero_le _, rfl, HM.out⟩
        case round =>
          rename World => w5
          obtain ⟨u, hu, rfl, hm⟩ := hrel
          have HM5 := Lib.hid hm
          clear hm
          by_cases hul : u < v
          · have ec := HOK.out.enter
            go_wp2_with fail
            refine (HOK.out.ask u v w5 hul hlt HM5.out.gen).mono ?_
            rintro e w6 ⟨rfl, hi6, ht6⟩
            clear ec
            have HM6 := Lib.hid (HM5.out.asked ht6 hz2 (Nat.le_refl _) hi6)
            clear hi6 ht6
            have r1 := symA_lt R hul hlt
            have r2 := symA_gt R hul hlt
            by_cases hr : R u v = true
            · rw [hr] at r1 r2 ⊢
              have HS : Hid (∀ i j, linkA (stepA (symA n R) v u) u v i j = stepA (symA n R) v (u + 1) i j) := fun i j => (stepA_link r1 r2 i j).symm
              clear r1 r2 hr
              go_wp2_with fail
              refine (link_any w2.heap.size n u v _ _ HM6.out.net (fun i => pm_lt _) (by omega) (by omega) (by omega)).mono ?_
              rintro e w7 ⟨rfl, hp7⟩
              have HM7 := Lib.hid ((HM6.out.linked HOK.out hp7 (Nat.le_refl _) (by omega) (by omega) (by omega) (by omega)).congr HS.out rfl)
              clear hp7
              go_wp2
              go_roundw
              case rel => exact ⟨u + 1, by omega, by go_num, HM7.out⟩
              case measure => simp [intOf]; omega
            · have hr' : R u v = false := by simpa using hr
              rw [hr'] at r1 r2 ⊢
              have HS : Hid (∀ i j, stepA (symA n R) v u i j = stepA (symA n R) v (u + 1) i j) := fun i j => (stepA_skip r1 r2 i j).symm
              clear r1 r2 hr hr'
              go_wp2
              go_roundw
              case rel => exact ⟨u + 1, by omega, by go_num, HM6.out.congr HS.out rfl⟩
              case measure => simp [intOf]; omega
          · obtain rfl : u = v := by omega
            go_wp2
            go_roundw
            case rel => exact ⟨u + 1, by omega, by go_num, HM5.out.congr (fun i j => stepA_next (symA_self n R) u i j) rfl⟩
            case measure => simp [intOf]; omega
      · obtain rfl : v = n := by omega
        go_wp2_with fail
        refine (graph_any w2.heap.size v _ _ HM.out.net (fun i => pm_lt _) hn1 hn).mono ?_
        rintro e w7 ⟨n7, a7, c7, rfl, ho7, hb7⟩
        have kr := (HM.out.res.keep hb7).1
        have kf := (HM.out.res.keep hb7).2
        have HB7 : Hid (Below w.heap.size w w7) := HM.out.bel.trans (hb7.mono (Nat.le_of_lt HM.out.res.lt))
        have hgl := HM.out.res.lt
        have HO7 := Lib.hid ho7
        clear ho7 hb7
        go_wp2
        refine bodyPost_ret (v := .tuple #[.agg #[.slice a7 n7 c7], .bool true]) (by simp [results, Try.results48, go_sem, cell_set_same _ kr]) rfl ⟨n7, a7, c7, by rw [HIN.out], ?_, HB7.out.setCell (by simp) _⟩
        rw [HG.out, ← step_end]
        exact (HO7.out.setBelow (by simp; omega) _).mono (by omega)
  · have hin' : inB N 1 16 = false := by simpa using hin
    have HIN := Lib.hid hin'
    rw [hin']
    clear hin hin' HR HGEN
    go_wp2
    refine bodyPost_ret (v := .tuple #[.agg #[.slice none 0 0], .bool false]) (by simp [results, Try.results48, go_sem, cell_set_same _ k1]) rfl ?_
    rw [HIN.out, genL_no]
    exact GaveGB.no (HB2.out.setCell (by simp) _)

set_option maxHeartbeats 3200000 in
set_option maxRecDepth 100000 in
theorem made7_any (nv : Value) (N : Int) (R : Nat → Nat → Bool) (w : World) (hgen : ∀ W, Below w.heap.size w W → Calls Try.prog 114 #[nv] W (GenPost W N R)) :
    Calls Try.prog 48 #[.int .i64 7, nv] w (GaveGB w (genL (inB N 1 16) N.toNat R) (inB N 1 16)) := by
  have HB0 : Hid (Below w.heap.size w (w.alloc (.cells #[.slice none 0 0] 30))) := (Below.refl _ _).alloc (Nat.le_refl _) _
  have HBX0 : Hid (BoxAt (w.alloc (.cells #[.slice none 0 0] 30)) w.heap.size (.slice none 0 0)) := BoxAt.new _ _ _
  have HGEN := Lib.hid hgen
  clear hgen
  go_enter Try.func48, Try.ntmps48
  go_wp2_with fail
  refine (generators_any _).mono ?_
  rintro e w1 ⟨rfl, hb1⟩
  have HB1 : Hid (Below w.heap.size w w1) := HB0.out.trans (hb1.mono HB0.out.size)
  have HBX1 := Lib.hid (HBX0.out.keep hb1)
  have hix := idx7
  clear hb1
  go_wp2_with fail
  refine (HGEN.out w1 HB1.out).mono ?_
  rintro e w2 ⟨near, rfl, hb2, hrule⟩
  have HB2 : Hid (Below w.heap.size w w2) := HB1.out.trans (hb2.mono HB1.out.size)
  have hbx2 := HBX1.out.keep hb2
  have HBX2 := Lib.hid hbx2
  have hz1 := HBX1.out.lt
  have HZ2 := Lib.hid hb2.size
  have k1 := hbx2.1
  have k2 := hbx2.2
  have HR := Lib.hid hrule
  clear hb2 hrule hbx2
  go_wp2_with fail
  refine (sizeOk_any _ _).mono ?_
  rintro e w' ⟨rfl, rfl⟩
  by_cases hin : inB N 1 16 = true
  · obtain ⟨n, rfl, hn1, hn⟩ := inB_nat hin (by omega)
    have hn1 : 1 ≤ n := by omega
    have hn : n ≤ 16 := by omega
    obtain ⟨K, lb, I, rfl, hok, hI0⟩ := HR.out hin
    rw [Int.toNat_natCast] at hok
    have HOK := Lib.hid hok
    have HI0 := Lib.hid hI0
    have HIN := Lib.hid hin
    have HG : Hid (genL (inB (n : Int) 1 16) (n : Int).toNat R = adjL n (symA n R)) := by show _ = _; rw [hin, genL_yes, Int.toNat_natCast]
    rw [hin]
    have hnb := netBlk_new w2 0 (fun _ => 0)
    clear hin hok hI0 HR HGEN
    go_wp2_with (refine wpList_store_net rfl 65 (.tmp 8) (.tmp 24) rfl w2.heap.size n (fun _ => 0) rfl rfl Try.sizeNet 0 (fun _ => 0) hnb ?_; intro w3 hp; have HN3 := Lib.hid hp.net; have HB3 : Hid (Below w.heap.size w w3) := (HB2.out.alloc HB2.out.size _).trans (hp.below.mono HB2.out.size); have BX3 : Hid (BoxAt w3 w.heap.size (.slice none 0 0)) := (HBX2.out.keep ((Below.refl _ _).alloc (Nat.le_refl _) _)).keepB hp.below (by have := HZ2.out; omega); have HI3 : Hid (I 0 w3) := HOK.out.keep 0 _ _ HI0.out (Nat.le_trans (by rw [size_alloc1]; omega) hp.below.size) (fun j hj => (hp.below.block j hj).trans (((Below.refl w2.heap.size w2).alloc (Nat.le_refl _) _).block j hj)); clear hp)
    have HM3 : Hid (MadeAt w w2.heap.size n (stepA (symA n R) 0 0) I (tri 0) w3) := ⟨HN3.out.congr rfl (fun i _ => by rw [show (stepA (symA n R) 0 0 i) = (fun _ => false) from by funext j; exact stepA_zero _ i j]; exact pm_false.symm), BX3.out, HB3.out, HI3.out⟩
    have hz2 : w.heap.size + 1 ≤ w1.heap.size := by omega
    have hz3 := HZ2.out
    clear HN3 HB3 BX3 HI3 HI0 HBX2 HB2 hnb k1 k2
    go_loopw [26] (fun i wr => ∃ v : Nat, v ≤ n ∧ i = .int .i64 v ∧ MadeAt w w2.heap.size n (stepA (symA n R) v 0) I (tri v) wr) (fun i _ => n - (intOf i).toNat)
    case atStart => exact ⟨0, Nat.zero_le _, rfl, HM3.out⟩
    case round =>
      obtain ⟨v, hv, rfl, hm⟩ := hrel
      have HM := Lib.hid hm
      clear hm
      by_cases hlt : v < n
      · go_wp2_with fail
        go_loopw [30] (fun i wr => ∃ u : Nat, u ≤ v ∧ i = .int .i64 u ∧ MadeAt w w2.heap.size n (stepA (symA n R) v u) I (tri v + u) wr) (fun i _ => v - (intOf i).toNat)
        case atStart => exact ⟨0, Nat.zero_le _, rfl, HM.out⟩
        case round =>
          rename World => w5
          obtain ⟨u, hu, rfl, hm⟩ := hrel
          have HM5 := Lib.hid hm
          clear hm
          by_cases hul : u < v
          · have ec := HOK.out.enter
            go_wp2_with fail
            refine (HOK.out.ask u v w5 hul hlt HM5.out.gen).mono ?_
            rintro e w6 ⟨rfl, hi6, ht6⟩
            clear ec
            have HM6 := Lib.hid (HM5.out.asked ht6 hz2 (Nat.le_refl _) hi6)
            clear hi6 ht6
            have r1 := symA_lt R hul hlt
            have r2 := symA_gt R hul hlt
            by_cases hr : R u v = true
            · rw [hr] at r1 r2 ⊢
              have HS : Hid (∀ i j, linkA (stepA (symA n R) v u) u v i j = stepA (symA n R) v (u + 1) i j) := fun i j => (stepA_link r1 r2 i j).symm
              clear r1 r2 hr
              go_wp2_with fail
              refine (link_any w2.heap.size n u v _ _ HM6.out.net (fun i => pm_lt _) (by omega) (by omega) (by omega)).mono ?_
              rintro e w7 ⟨rfl, hp7⟩
              have HM7 := Lib.hid ((HM6.out.linked HOK.out hp7 (Nat.le_refl _) (by omega) (by omega) (by omega) (by omega)).congr HS.out rfl)
              clear hp7
              go_wp2
              go_roundw
              case rel => exact ⟨u + 1, by omega, by go_num, HM7.out⟩
              case measure => simp [intOf]; omega
            · have hr' : R u v = false := by simpa using hr
              rw [hr'] at r1 r2 ⊢
              have HS : Hid (∀ i j, stepA (symA n R) v u i j = stepA (symA n R) v (u + 1) i j) := fun i j => (stepA_skip r1 r2 i j).symm
              clear r1 r2 hr hr'
              go_wp2
              go_roundw
              case rel => exact ⟨u + 1, by omega, by go_num, HM6.out.congr HS.out rfl⟩
              case measure => simp [intOf]; omega
          · obtain rfl : u = v := by omega
            go_wp2
            go_roundw
            case rel => exact ⟨u + 1, by omega, by go_num, HM5.out.congr (fun i j => stepA_next (symA_self n R) u i j) rfl⟩
            case measure => simp [intOf]; omega
      · obtain rfl : v = n := by omega
        go_wp2_with fail
        refine (graph_any w2.heap.size v _ _ HM.out.net (fun i => pm_lt _) hn1 hn).mono ?_
        rintro e w7 ⟨n7, a7, c7, rfl, ho7, hb7⟩
        have kr := (HM.out.res.keep hb7).1
        have kf := (HM.out.res.keep hb7).2
        have HB7 : Hid (Below w.heap.size w w7) := HM.out.bel.trans (hb7.mono (Nat.le_of_lt HM.out.res.lt))
        have hgl := HM.out.res.lt
        have HO7 := Lib.hid ho7
        clear ho7 hb7
        go_wp2
        refine bodyPost_ret (v := .tuple #[.agg #[.slice a7 n7 c7], .bool true]) (by simp [results, Try.results48, go_sem, cell_set_same _ kr]) rfl ⟨n7, a7, c7, by rw [HIN.out], ?_, HB7.out.setCell (by simp) _⟩
        rw [HG.out, ← step_end]
        exact (HO7.out.setBelow (by simp; omega) _).mono (by omega)
  · have hin' : inB N 1 16 = false := by simpa using hin
    have HIN := Lib.hid hin'
    rw [hin']
    clear hin hin' HR HGEN
    go_wp2
    refine bodyPost_ret (v := .tuple #[.agg #[.slice none 0 0], .bool false]) (by simp [results, Try.results48, go_sem, cell_set_same _ k1]) rfl ?_
    rw [HIN.out, genL_no]
    exact GaveGB.no (HB2.out.setCell (by simp) _)

set_option maxHeartbeats 3200000 in
set_option maxRecDepth 100000 in
theorem made8_any (nv : Value) (N : Int) (R : Nat → Nat → Bool) (w : World) (hgen : ∀ W, Below w.heap.size w W → Calls Try.prog 115 #[nv] W (GenPost W N R)) :
    Calls Try.prog 48 #[.int .i64 8, nv] w (GaveGB w (genL (inB N 1 16) N.toNat R) (inB N 1 16)) := by
  have HB0 : Hid (Below w.heap.size w (w.alloc (.cells #[.slice none 0 0] 30))) := (Below.refl _ _).alloc (Nat.le_refl _) _
  have HBX0 : Hid (BoxAt (w.alloc (.cells #[.slice none 0 0] 30)) w.heap.size (.slice none 0 0)) := BoxAt.new _ _ _
  have HGEN := Lib.hid hgen
  clear hgen
  go_enter Try.func48, Try.ntmps48
  go_wp2_with fail
  refine (generators_any _).mono ?_
  rintro e w1 ⟨rfl, hb1⟩
  have HB1 : Hid (Below w.heap.size w w1) := HB0.out.trans (hb1.mono HB0.out.size)
  have HBX1 := Lib.hid (HBX0.out.keep hb1)
  have hix := idx8
  clear hb1
  go_wp2_with fail
  refine (HGEN.out w1 HB1.out).mono ?_
  rintro e w2 ⟨near, rfl, hb2, hrule⟩
  have HB2 : Hid (Below w.heap.size w w2) := HB1.out.trans (hb2.mono HB1.out.size)
  have hbx2 := HBX1.out.keep hb2
  have HBX2 := Lib.hid hbx2
  have hz1 := HBX1.out.lt
  have HZ2 := Lib.hid hb2.size
  have k1 := hbx2.1
  have k2 := hbx2.2
  have HR := Lib.hid hrule
  clear hb2 hrule hbx2
  go_wp2_with fail
  refine (sizeOk_any _ _).mono ?_
  rintro e w' ⟨rfl, rfl⟩
  by_cases hin : inB N 1 16 = true
  · obtain ⟨n, rfl, hn1, hn⟩ := inB_nat hin (by omega)
    have hn1 : 1 ≤ n := by omega
    have hn : n ≤ 16 := by omega
    obtain ⟨K, lb, I, rfl, hok, hI0⟩ := HR.out hin
    rw [Int.toNat_natCast] at hok
    have HOK := Lib.hid hok
    have HI0 := Lib.hid hI0
    have HIN := Lib.hid hin
    have HG : Hid (genL (inB (n : Int) 1 16) (n : Int).toNat R = adjL n (symA n R)) := by show _ = _; rw [hin, genL_yes, Int.toNat_natCast]
    rw [hin]
    have hnb := netBlk_new w2 0 (fun _ => 0)
    clear hin hok hI0 HR HGEN
    go_wp2_with (refine wpList_store_net rfl 65 (.tmp 8) (.tmp 24) rfl w2.heap.size n (fun _ => 0) rfl rfl Try.sizeNet 0 (fun _ => 0) hnb ?_; intro w3 hp; have HN3 := Lib.hid hp.net; have HB3 : Hid (Below w.heap.size w w3) := (HB2.out.alloc HB2.out.size _).trans (hp.below.mono HB2.out.size); have BX3 : Hid (BoxAt w3 w.heap.size (.slice none 0 0)) := (HBX2.out.keep ((Below.refl _ _).alloc (Nat.le_refl _) _)).keepB hp.below (by have := HZ2.out; omega); have HI3 : Hid (I 0 w3) := HOK.out.keep 0 _ _ HI0.out (Nat.le_trans (by rw [size_alloc1]; omega) hp.below.size) (fun j hj => (hp.below.block j hj).trans (((Below.refl w2.heap.size w2).alloc (Nat.le_refl _) _).block j hj)); clear hp)
    have HM3 : Hid (MadeAt w w2.heap.size n (stepA (symA n R) 0 0) I (tri 0) w3) := ⟨HN3.out.congr rfl (fun i _ => by rw [show (stepA (symA n R) 0 0 i) = (fun _ => false) from by funext j; exact stepA_zero _ i j]; exact pm_false.symm), BX3.out, HB3.out, HI3.out⟩
    have hz2 : w.heap.size + 1 ≤ w1.heap.size := by omega
    have hz3 := HZ2.out
    clear HN3 HB3 BX3 HI3 HI0 HBX2 HB2 hnb k1 k2
    go_loopw [26] (fun i wr => ∃ v : Nat, v ≤ n ∧ i = .int .i64 v ∧ MadeAt w w2.heap.size n (stepA (symA n R) v 0) I (tri v) wr) (fun i _ => n - (intOf i).toNat)
    case atStart => exact ⟨0, Nat.zero_le _, rfl, HM3.out⟩
    case round =>
      obtain ⟨v, hv, rfl, hm⟩ := hrel
      have HM := Lib.hid hm
      clear hm
      by_cases hlt : v < n
      · go_wp2_with fail
        go_loopw [30] (fun i wr => ∃ u : Nat, u ≤ v ∧ i = .int .i64 u ∧ MadeAt w w2.heap.size n (stepA (symA n R) v u) I (tri v + u) wr) (fun i _ => v - (intOf i).toNat)
        case atStart => exact ⟨0, Nat.zero_le _, rfl, HM.out⟩
        case round =>
          rename World => w5
          obtain ⟨u, hu, rfl, hm⟩ := hrel
          have HM5 := Lib.hid hm
          clear hm
          by_cases hul : u < v
          · have ec := HOK.out.enter
            go_wp2_with fail
            refine (HOK.out.ask u v w5 hul hlt HM5.out.gen).mono ?_
            rintro e w6 ⟨rfl, hi6, ht6⟩
            clear ec
            have HM6 := Lib.hid (HM5.out.asked ht6 hz2 (Nat.le_refl _) hi6)
            clear hi6 ht6
            have r1 := symA_lt R hul hlt
            have r2 := symA_gt R hul hlt
            by_cases hr : R u v = true
            · rw [hr] at r1 r2 ⊢
              have HS : Hid (∀ i j, linkA (stepA (symA n R) v u) u v i j = stepA (symA n R) v (u + 1) i j) := fun i j => (stepA_link r1 r2 i j).symm
              clear r1 r2 hr
              go_wp2_with fail
              refine (link_any w2.heap.size n u v _ _ HM6.out.net (fun i => pm_lt _) (by omega) (by omega) (by omega)).mono ?_
              rintro e w7 ⟨rfl, hp7⟩
              have HM7 := Lib.hid ((HM6.out.linked HOK.out hp7 (Nat.le_refl _) (by omega) (by omega) (by omega) (by omega)).congr HS.out rfl)
              clear hp7
              go_wp2
              go_roundw
              case rel => exact ⟨u + 1, by omega, by go_num, HM7.out⟩
              case measure => simp [intOf]; omega
            · have hr' : R u v = false := by simpa using hr
              rw [hr'] at r1 r2 ⊢
              have HS : Hid (∀ i j, stepA (symA n R) v u i j = stepA (symA n R) v (u + 1) i j) := fun i j => (stepA_skip r1 r2 i j).symm
              clear r1 r2 hr hr'
              go_wp2
              go_roundw
              case rel => exact ⟨u + 1, by omega, by go_num, HM6.out.congr HS.out rfl⟩
              case measure => simp [intOf]; omega
          · obtain rfl : u = v := by omega
            go_wp2
            go_roundw
            case rel => exact ⟨u + 1, by omega, by go_num, HM5.out.congr (fun i j => stepA_next (symA_self n R) u i j) rfl⟩
            case measure => simp [intOf]; omega
      · obtain rfl : v = n := by omega
        go_wp2_with fail
        refine (graph_any w2.heap.size v _ _ HM.out.net (fun i => pm_lt _) hn1 hn).mono ?_
        rintro e w7 ⟨n7, a7, c7, rfl, ho7, hb7⟩
        have kr := (HM.out.res.keep hb7).1
        have kf := (HM.out.res.keep hb7).2
        have HB7 : Hid (Below w.heap.size w w7) := HM.out.bel.trans (hb7.mono (Nat.le_of_lt HM.out.res.lt))
        have hgl := HM.out.res.lt
        have HO7 := Lib.hid ho7
        clear ho7 hb7
        go_wp2
        refine bodyPost_ret (v := .tuple #[.agg #[.slice a7 n7 c7], .bool true]) (by simp [results, Try.results48, go_sem, cell_set_same _ kr]) rfl ⟨n7, a7, c7, by rw [HIN.out], ?_, HB7.out.setCell (by simp) _⟩
        rw [HG.out, ← step_end]
        exact (HO7.out.setBelow (by simp; omega) _).mono (by omega)
  · have hin' : inB N 1 16 = false := by simpa using hin
    have HIN := Lib.hid hin'
    rw [hin']
    clear hin hin' HR HGEN
    go_wp2
    refine bodyPost_ret (v := .tuple #[.agg #[.slice none 0 0], .bool false]) (by simp [results, Try.results48, go_sem, cell_set_same _ k1]) rfl ?_
    rw [HIN.out, genL_no]
    exact GaveGB.no (HB2.out.setCell (by simp) _)

end Go.Proofs.Ytojbaepcflkgeaa

/- Walks: the program's generators of one number. Written by program (tools/gen/genimpl.py). -/
namespace Go.Proofs.Ytojbaepcflkgeaa
open Go.RowKit

theorem genL_to {ok ok' : Bool} {n n' : Nat} {R : Nat → Nat → Bool} (h : ok = ok') (hn : ok' = true → n = n') : genL ok n R = genL ok' n' R ∧ ok = ok' := by
  subst h
  refine ⟨?_, rfl⟩
  cases ok with
  | false => rfl
  | true => rw [hn rfl]
theorem inB_iff {n lo hi : Int} : inB n lo hi = true ↔ lo ≤ n ∧ n ≤ hi := by simp [inB]
theorem inB_if (n lo hi : Int) (hi' : Int) (e : Int) (h : ∀ k, lo ≤ k ∧ k ≤ hi → (1 ≤ k + e ∧ k + e ≤ 16 ↔ lo ≤ k ∧ k ≤ hi')) (hh : hi' ≤ hi) : inB (if inB n lo hi then n + e else 0) 1 16 = inB n lo hi' := by
  by_cases hin : inB n lo hi = true
  · rw [if_pos hin, Bool.eq_iff_iff, inB_iff, inB_iff]
    exact h n (inB_iff.1 hin)
  · rw [if_neg hin]
    have h2 : inB n lo hi' = false := by
      cases hb : inB n lo hi' with
      | false => rfl
      | true => exact absurd (inB_iff.2 ⟨(inB_iff.1 hb).1, Int.le_trans (inB_iff.1 hb).2 hh⟩) hin
    rw [h2]; rfl

set_option maxHeartbeats 800000 in
theorem implPathGraph_any (n : Int) (w : World) : Calls Try.prog 17 #[.int .i64 n] w (GaveGB w (genL (inB n 1 16) n.toNat pathR) (inB n 1 16)) := by
  have HB0 : Hid (Below w.heap.size w ((w.alloc (.cells #[.slice none 0 0] 30)).alloc (.cells #[.int .i64 n] 2))) := ((Below.refl _ _).alloc (Nat.le_refl _) _).alloc (by simp) _
  have HBX0 : Hid (BoxAt ((w.alloc (.cells #[.slice none 0 0] 30)).alloc (.cells #[.int .i64 n] 2)) w.heap.size (.slice none 0 0)) := (BoxAt.new w _ _).keep ((Below.refl _ _).alloc (Nat.le_refl _) _)
  have hrow : ArgsAt ((w.alloc (.cells #[.slice none 0 0] 30)).alloc (.cells #[.int .i64 n] 2)) (.slice (some ⟨w.heap.size + 1, 0, none⟩) 1 1) [n] := by
    have h := ArgsAt.new (w.alloc (.cells #[.slice none 0 0] 30)) [n] 1
    rw [size_alloc1] at h
    exact h
  have HR := Lib.hid hrow
  have HSZ : Hid (((w.alloc (.cells #[.slice none 0 0] 30)).alloc (.cells #[.int .i64 n] 2)).heap.size = w.heap.size + 1 + 1) := by show _ = _; rw [size_alloc1, size_alloc1]
  obtain ⟨N, hN⟩ : ∃ N, N = n := ⟨_, rfl⟩
  have HQ : Hid (∀ e W, GaveGB w (genL (inB N 1 16) N.toNat pathR) (inB N 1 16) e W → GaveGB w (genL (inB n 1 16) n.toNat pathR) (inB n 1 16) e W) := fun e W h => by
    have he : genL (inB N 1 16) N.toNat pathR = genL (inB n 1 16) n.toNat pathR ∧ inB N 1 16 = (inB n 1 16) := by
      rw [hN]
      exact ⟨rfl, rfl⟩
    rw [← he.1, ← he.2]; exact h
  have HG : Hid (∀ W, Below ((w.alloc (.cells #[.slice none 0 0] 30)).alloc (.cells #[.int .i64 n] 2)).heap.size ((w.alloc (.cells #[.slice none 0 0] 30)).alloc (.cells #[.int .i64 n] 2)) W → Calls Try.prog 107 #[.slice (some ⟨w.heap.size + 1, 0, none⟩) 1 1] W (GenPost W N pathR)) := fun W hb => by
    rw [hN]
    exact pathRule_any n _ W (HR.out.keep hb)
  clear hrow hN
  go_enter Try.func17, Try.ntmps17
  go_wp2_with fail
  refine (made0_any _ N pathR _ HG.out).mono ?_
  rintro e w2 ⟨n2, a2, c2, rfl, ho2, hb2⟩
  have kr := (HBX0.out.keep hb2).1
  have kf := (HBX0.out.keep hb2).2
  have hgl := (HBX0.out.keep hb2).lt
  have HB2 : Hid (Below w.heap.size w w2) := HB0.out.trans (hb2.mono HB0.out.size)
  have HO2 := Lib.hid ho2
  have hz := HSZ.out
  clear ho2 hb2
  obtain ⟨ok, hok⟩ : ∃ ok, ok = inB N 1 16 := ⟨_, rfl⟩
  have HK := Lib.hid hok
  rw [← hok]
  clear hok
  go_wp2
  refine bodyPost_ret (v := .tuple #[.agg #[.slice a2 n2 c2], .bool ok]) (by simp [results, Try.results17, go_sem, cell_set_same _ kr]) rfl ?_
  refine HQ.out _ _ ?_
  rw [← HK.out]
  exact ⟨n2, a2, c2, rfl, (by rw [HK.out]; exact HO2.out.setBelow (by simp; omega) _ : OwnGrid _ _ _ _ _ _).mono (by omega), HB2.out.setCell (by simp) _⟩

set_option maxHeartbeats 800000 in
theorem implFullGraph_any (n : Int) (w : World) : Calls Try.prog 19 #[.int .i64 n] w (GaveGB w (genL (inB n 1 16) n.toNat fullR) (inB n 1 16)) := by
  have HB0 : Hid (Below w.heap.size w ((w.alloc (.cells #[.slice none 0 0] 30)).alloc (.cells #[.int .i64 n] 2))) := ((Below.refl _ _).alloc (Nat.le_refl _) _).alloc (by simp) _
  have HBX0 : Hid (BoxAt ((w.alloc (.cells #[.slice none 0 0] 30)).alloc (.cells #[.int .i64 n] 2)) w.heap.size (.slice none 0 0)) := (BoxAt.new w _ _).keep ((Below.refl _ _).alloc (Nat.le_refl _) _)
  have hrow : ArgsAt ((w.alloc (.cells #[.slice none 0 0] 30)).alloc (.cells #[.int .i64 n] 2)) (.slice (some ⟨w.heap.size + 1, 0, none⟩) 1 1) [n] := by
    have h := ArgsAt.new (w.alloc (.cells #[.slice none 0 0] 30)) [n] 1
    rw [size_alloc1] at h
    exact h
  have HR := Lib.hid hrow
  have HSZ : Hid (((w.alloc (.cells #[.slice none 0 0] 30)).alloc (.cells #[.int .i64 n] 2)).heap.size = w.heap.size + 1 + 1) := by show _ = _; rw [size_alloc1, size_alloc1]
  obtain ⟨N, hN⟩ : ∃ N, N = n := ⟨_, rfl⟩
  have HQ : Hid (∀ e W, GaveGB w (genL (inB N 1 16) N.toNat fullR) (inB N 1 16) e W → GaveGB w (genL (inB n 1 16) n.toNat fullR) (inB n 1 16) e W) := fun e W h => by
    have he : genL (inB N 1 16) N.toNat fullR = genL (inB n 1 16) n.toNat fullR ∧ inB N 1 16 = (inB n 1 16) := by
      rw [hN]
      exact ⟨rfl, rfl⟩
    rw [← he.1, ← he.2]; exact h
  have HG : Hid (∀ W, Below ((w.alloc (.cells #[.slice none 0 0] 30)).alloc (.cells #[.int .i64 n] 2)).heap.size ((w.alloc (.cells #[.slice none 0 0] 30)).alloc (.cells #[.int .i64 n] 2)) W → Calls Try.prog 109 #[.slice (some ⟨w.heap.size + 1, 0, none⟩) 1 1] W (GenPost W N fullR)) := fun W hb => by
    rw [hN]
    exact fullRule_any n _ W (HR.out.keep hb)
  clear hrow hN
  go_enter Try.func19, Try.ntmps19
  go_wp2_with fail
  refine (made2_any _ N fullR _ HG.out).mono ?_
  rintro e w2 ⟨n2, a2, c2, rfl, ho2, hb2⟩
  have kr := (HBX0.out.keep hb2).1
  have kf := (HBX0.out.keep hb2).2
  have hgl := (HBX0.out.keep hb2).lt
  have HB2 : Hid (Below w.heap.size w w2) := HB0.out.trans (hb2.mono HB0.out.size)
  have HO2 := Lib.hid ho2
  have hz := HSZ.out
  clear ho2 hb2
  obtain ⟨ok, hok⟩ : ∃ ok, ok = inB N 1 16 := ⟨_, rfl⟩
  have HK := Lib.hid hok
  rw [← hok]
  clear hok
  go_wp2
  refine bodyPost_ret (v := .tuple #[.agg #[.slice a2 n2 c2], .bool ok]) (by simp [results, Try.results19, go_sem, cell_set_same _ kr]) rfl ?_
  refine HQ.out _ _ ?_
  rw [← HK.out]
  exact ⟨n2, a2, c2, rfl, (by rw [HK.out]; exact HO2.out.setBelow (by simp; omega) _ : OwnGrid _ _ _ _ _ _).mono (by omega), HB2.out.setCell (by simp) _⟩

set_option maxHeartbeats 800000 in
theorem implLoopGraph_any (n : Int) (w : World) : Calls Try.prog 18 #[.int .i64 n] w (GaveGB w (genL (inB n 3 16) n.toNat (loopR n.toNat)) (inB n 3 16)) := by
  have HB0 : Hid (Below w.heap.size w ((w.alloc (.cells #[.slice none 0 0] 30)).alloc (.cells #[.int .i64 n] 2))) := ((Below.refl _ _).alloc (Nat.le_refl _) _).alloc (by simp) _
  have HBX0 : Hid (BoxAt ((w.alloc (.cells #[.slice none 0 0] 30)).alloc (.cells #[.int .i64 n] 2)) w.heap.size (.slice none 0 0)) := (BoxAt.new w _ _).keep ((Below.refl _ _).alloc (Nat.le_refl _) _)
  have hrow : ArgsAt ((w.alloc (.cells #[.slice none 0 0] 30)).alloc (.cells #[.int .i64 n] 2)) (.slice (some ⟨w.heap.size + 1, 0, none⟩) 1 1) [n] := by
    have h := ArgsAt.new (w.alloc (.cells #[.slice none 0 0] 30)) [n] 1
    rw [size_alloc1] at h
    exact h
  have HR := Lib.hid hrow
  have HSZ : Hid (((w.alloc (.cells #[.slice none 0 0] 30)).alloc (.cells #[.int .i64 n] 2)).heap.size = w.heap.size + 1 + 1) := by show _ = _; rw [size_alloc1, size_alloc1]
  obtain ⟨N, hN⟩ : ∃ N, N = (if inB n 3 16 then n else 0) := ⟨_, rfl⟩
  have HQ : Hid (∀ e W, GaveGB w (genL (inB N 1 16) N.toNat (loopR n.toNat)) (inB N 1 16) e W → GaveGB w (genL (inB n 3 16) n.toNat (loopR n.toNat)) (inB n 3 16) e W) := fun e W h => by
    have he : genL (inB N 1 16) N.toNat (loopR n.toNat) = genL (inB n 3 16) n.toNat (loopR n.toNat) ∧ inB N 1 16 = (inB n 3 16) := by
      rw [hN]
      exact genL_to (by have := inB_if n 3 16 16 0 (fun k h => by omega) (by omega); rwa [Int.add_zero] at this) (fun h => by rw [if_pos h])
    rw [← he.1, ← he.2]; exact h
  have HG : Hid (∀ W, Below ((w.alloc (.cells #[.slice none 0 0] 30)).alloc (.cells #[.int .i64 n] 2)).heap.size ((w.alloc (.cells #[.slice none 0 0] 30)).alloc (.cells #[.int .i64 n] 2)) W → Calls Try.prog 108 #[.slice (some ⟨w.heap.size + 1, 0, none⟩) 1 1] W (GenPost W N (loopR n.toNat))) := fun W hb => by
    rw [hN]
    exact loopRule_gen n _ W (HR.out.keep hb)
  clear hrow hN
  go_enter Try.func18, Try.ntmps18
  go_wp2_with fail
  refine (made1_any _ N (loopR n.toNat) _ HG.out).mono ?_
  rintro e w2 ⟨n2, a2, c2, rfl, ho2, hb2⟩
  have kr := (HBX0.out.keep hb2).1
  have kf := (HBX0.out.keep hb2).2
  have hgl := (HBX0.out.keep hb2).lt
  have HB2 : Hid (Below w.heap.size w w2) := HB0.out.trans (hb2.mono HB0.out.size)
  have HO2 := Lib.hid ho2
  have hz := HSZ.out
  clear ho2 hb2
  obtain ⟨ok, hok⟩ : ∃ ok, ok = inB N 1 16 := ⟨_, rfl⟩
  have HK := Lib.hid hok
  rw [← hok]
  clear hok
  go_wp2
  refine bodyPost_ret (v := .tuple #[.agg #[.slice a2 n2 c2], .bool ok]) (by simp [results, Try.results18, go_sem, cell_set_same _ kr]) rfl ?_
  refine HQ.out _ _ ?_
  rw [← HK.out]
  exact ⟨n2, a2, c2, rfl, (by rw [HK.out]; exact HO2.out.setBelow (by simp; omega) _ : OwnGrid _ _ _ _ _ _).mono (by omega), HB2.out.setCell (by simp) _⟩

set_option maxHeartbeats 800000 in
theorem implWheelGraph_any (n : Int) (w : World) : Calls Try.prog 22 #[.int .i64 n] w (GaveGB w (genL (inB n 3 15) (n.toNat + 1) (wheelR n.toNat)) (inB n 3 15)) := by
  have HB0 : Hid (Below w.heap.size w ((w.alloc (.cells #[.slice none 0 0] 30)).alloc (.cells #[.int .i64 n] 2))) := ((Below.refl _ _).alloc (Nat.le_refl _) _).alloc (by simp) _
  have HBX0 : Hid (BoxAt ((w.alloc (.cells #[.slice none 0 0] 30)).alloc (.cells #[.int .i64 n] 2)) w.heap.size (.slice none 0 0)) := (BoxAt.new w _ _).keep ((Below.refl _ _).alloc (Nat.le_refl _) _)
  have hrow : ArgsAt ((w.alloc (.cells #[.slice none 0 0] 30)).alloc (.cells #[.int .i64 n] 2)) (.slice (some ⟨w.heap.size + 1, 0, none⟩) 1 1) [n] := by
    have h := ArgsAt.new (w.alloc (.cells #[.slice none 0 0] 30)) [n] 1
    rw [size_alloc1] at h
    exact h
  have HR := Lib.hid hrow
  have HSZ : Hid (((w.alloc (.cells #[.slice none 0 0] 30)).alloc (.cells #[.int .i64 n] 2)).heap.size = w.heap.size + 1 + 1) := by show _ = _; rw [size_alloc1, size_alloc1]
  obtain ⟨N, hN⟩ : ∃ N, N = (if inB n 3 16 then n + 1 else 0) := ⟨_, rfl⟩
  have HQ : Hid (∀ e W, GaveGB w (genL (inB N 1 16) N.toNat (wheelR n.toNat)) (inB N 1 16) e W → GaveGB w (genL (inB n 3 15) (n.toNat + 1) (wheelR n.toNat)) (inB n 3 15) e W) := fun e W h => by
    have he : genL (inB N 1 16) N.toNat (wheelR n.toNat) = genL (inB n 3 15) (n.toNat + 1) (wheelR n.toNat) ∧ inB N 1 16 = (inB n 3 15) := by
      rw [hN]
      exact genL_to (inB_if n 3 16 15 1 (fun k h => by omega) (by omega)) (fun h => by have h2 := inB_iff.1 h; rw [if_pos (inB_iff.2 ⟨h2.1, by omega⟩)]; omega)
    rw [← he.1, ← he.2]; exact h
  have HG : Hid (∀ W, Below ((w.alloc (.cells #[.slice none 0 0] 30)).alloc (.cells #[.int .i64 n] 2)).heap.size ((w.alloc (.cells #[.slice none 0 0] 30)).alloc (.cells #[.int .i64 n] 2)) W → Calls Try.prog 111 #[.slice (some ⟨w.heap.size + 1, 0, none⟩) 1 1] W (GenPost W N (wheelR n.toNat))) := fun W hb => by
    rw [hN]
    exact wheelRule_gen n _ W (HR.out.keep hb)
  clear hrow hN
  go_enter Try.func22, Try.ntmps22
  go_wp2_with fail
  refine (made4_any _ N (wheelR n.toNat) _ HG.out).mono ?_
  rintro e w2 ⟨n2, a2, c2, rfl, ho2, hb2⟩
  have kr := (HBX0.out.keep hb2).1
  have kf := (HBX0.out.keep hb2).2
  have hgl := (HBX0.out.keep hb2).lt
  have HB2 : Hid (Below w.heap.size w w2) := HB0.out.trans (hb2.mono HB0.out.size)
  have HO2 := Lib.hid ho2
  have hz := HSZ.out
  clear ho2 hb2
  obtain ⟨ok, hok⟩ : ∃ ok, ok = inB N 1 16 := ⟨_, rfl⟩
  have HK := Lib.hid hok
  rw [← hok]
  clear hok
  go_wp2
  refine bodyPost_ret (v := .tuple #[.agg #[.slice a2 n2 c2], .bool ok]) (by simp [results, Try.results22, go_sem, cell_set_same _ kr]) rfl ?_
  refine HQ.out _ _ ?_
  rw [← HK.out]
  exact ⟨n2, a2, c2, rfl, (by rw [HK.out]; exact HO2.out.setBelow (by simp; omega) _ : OwnGrid _ _ _ _ _ _).mono (by omega), HB2.out.setCell (by simp) _⟩

set_option maxHeartbeats 800000 in
theorem implStarGraph_any (n : Int) (w : World) : Calls Try.prog 23 #[.int .i64 n] w (GaveGB w (genL (inB n 0 15) (n.toNat + 1) starR) (inB n 0 15)) := by
  have HB0 : Hid (Below w.heap.size w ((w.alloc (.cells #[.slice none 0 0] 30)).alloc (.cells #[.int .i64 n] 2))) := ((Below.refl _ _).alloc (Nat.le_refl _) _).alloc (by simp) _
  have HBX0 : Hid (BoxAt ((w.alloc (.cells #[.slice none 0 0] 30)).alloc (.cells #[.int .i64 n] 2)) w.heap.size (.slice none 0 0)) := (BoxAt.new w _ _).keep ((Below.refl _ _).alloc (Nat.le_refl _) _)
  have hrow : ArgsAt ((w.alloc (.cells #[.slice none 0 0] 30)).alloc (.cells #[.int .i64 n] 2)) (.slice (some ⟨w.heap.size + 1, 0, none⟩) 1 1) [n] := by
    have h := ArgsAt.new (w.alloc (.cells #[.slice none 0 0] 30)) [n] 1
    rw [size_alloc1] at h
    exact h
  have HR := Lib.hid hrow
  have HSZ : Hid (((w.alloc (.cells #[.slice none 0 0] 30)).alloc (.cells #[.int .i64 n] 2)).heap.size = w.heap.size + 1 + 1) := by show _ = _; rw [size_alloc1, size_alloc1]
  obtain ⟨N, hN⟩ : ∃ N, N = (if inB n 0 16 then n + 1 else 0) := ⟨_, rfl⟩
  have HQ : Hid (∀ e W, GaveGB w (genL (inB N 1 16) N.toNat starR) (inB N 1 16) e W → GaveGB w (genL (inB n 0 15) (n.toNat + 1) starR) (inB n 0 15) e W) := fun e W h => by
    have he : genL (inB N 1 16) N.toNat starR = genL (inB n 0 15) (n.toNat + 1) starR ∧ inB N 1 16 = (inB n 0 15) := by
      rw [hN]
      exact genL_to (inB_if n 0 16 15 1 (fun k h => by omega) (by omega)) (fun h => by have h2 := inB_iff.1 h; rw [if_pos (inB_iff.2 ⟨h2.1, by omega⟩)]; omega)
    rw [← he.1, ← he.2]; exact h
  have HG : Hid (∀ W, Below ((w.alloc (.cells #[.slice none 0 0] 30)).alloc (.cells #[.int .i64 n] 2)).heap.size ((w.alloc (.cells #[.slice none 0 0] 30)).alloc (.cells #[.int .i64 n] 2)) W → Calls Try.prog 115 #[.slice (some ⟨w.heap.size + 1, 0, none⟩) 1 1] W (GenPost W N starR)) := fun W hb => by
    rw [hN]
    exact starRule_any n _ W (HR.out.keep hb)
  clear hrow hN
  go_enter Try.func23, Try.ntmps23
  go_wp2_with fail
  refine (made8_any _ N starR _ HG.out).mono ?_
  rintro e w2 ⟨n2, a2, c2, rfl, ho2, hb2⟩
  have kr := (HBX0.out.keep hb2).1
  have kf := (HBX0.out.keep hb2).2
  have hgl := (HBX0.out.keep hb2).lt
  have HB2 : Hid (Below w.heap.size w w2) := HB0.out.trans (hb2.mono HB0.out.size)
  have HO2 := Lib.hid ho2
  have hz := HSZ.out
  clear ho2 hb2
  obtain ⟨ok, hok⟩ : ∃ ok, ok = inB N 1 16 := ⟨_, rfl⟩
  have HK := Lib.hid hok
  rw [← hok]
  clear hok
  go_wp2
  refine bodyPost_ret (v := .tuple #[.agg #[.slice a2 n2 c2], .bool ok]) (by simp [results, Try.results23, go_sem, cell_set_same _ kr]) rfl ?_
  refine HQ.out _ _ ?_
  rw [← HK.out]
  exact ⟨n2, a2, c2, rfl, (by rw [HK.out]; exact HO2.out.setBelow (by simp; omega) _ : OwnGrid _ _ _ _ _ _).mono (by omega), HB2.out.setCell (by simp) _⟩

end Go.Proofs.Ytojbaepcflkgeaa
