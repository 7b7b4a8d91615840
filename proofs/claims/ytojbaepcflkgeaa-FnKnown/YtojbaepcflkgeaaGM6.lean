/- Walks: the model's dice graphs. Written by program (tools/gen/dicespec.py). -/
import Derived.Test.YtojbaepcflkgeaaQGM3

namespace Go.Proofs.Ytojbaepcflkgeaa
open Go.RowKit

set_option maxHeartbeats 3200000 in
set_option maxRecDepth 100000 in
theorem specDiceGraph_any (s n f : Int) (w : World) : Calls Try.prog 32 #[.int .i64 s, .int .i64 n, .int .i64 f] w (GaveGB w (genL (diceB n f) n.toNat (diceR s f)) (diceB n f)) := by
  have HB0 : Hid (Below w.heap.size w (w.alloc (.cells #[.slice none 0 0] 30))) := (Below.refl _ _).alloc (Nat.le_refl _) _
  have HBX0 : Hid (BoxAt (w.alloc (.cells #[.slice none 0 0] 30)) w.heap.size (.slice none 0 0)) := BoxAt.new _ _ _
  by_cases hin : inB n 1 16 = true
  · obtain ⟨n, rfl, hn1, hn⟩ := inB_nat hin (by omega)
    have hn1 : 1 ≤ n := by omega
    have hn : n ≤ 16 := by omega
    by_cases hf : inB f 0 100 = true
    · have HI : Hid (diceB (n : Int) f = true) := by show _ = _; unfold diceB; rw [hin, hf]; rfl
      have HG : Hid (genL (diceB (n : Int) f) (n : Int).toNat (diceR s f) = adjL n (symA n (diceR s f))) := by show _ = _; rw [HI.out, genL_yes, Int.toNat_natCast]
      have HF := Lib.hid hf
      have hd1 := dst_ge s 0
      have hd2 := dst_lt s 0
      have hbd := rem_bounds s
      have hcs := rem_cases s
      obtain ⟨t, ht⟩ : ∃ t, Int.tmod s 999999937 = t := ⟨_, rfl⟩
      obtain ⟨D, hD⟩ : ∃ D, dst s 0 = D := ⟨_, rfl⟩
      rw [ht] at hbd hcs
      rw [hD] at hcs hd1 hd2
      have HD := Lib.hid hD
      obtain ⟨hb1, hb2⟩ := hbd
      clear hin hf hD
      rcases hcs with ⟨h1, rfl⟩ | ⟨h1, h2⟩
      · have dn : decide (t < 0) = false := by rw [decide_eq_false_iff_not]; omega
        go_enter Try.func32, Try.ntmps32
        go_wp2_with fail
        refine (l6Of_any n _ hn1 hn).mono ?_
        rintro e w2 ⟨a2, c2, rfl, ho2, hb2⟩
        have hs2 : w.heap.size < w2.heap.size := by have := hb2.size; rw [size_alloc1] at this; exact this
        rw [size_alloc1, show maskL n (fun _ => 0) = adjL n (stepA (symA n (diceR s f)) 1 0) from (none_row n).trans ((adjL_empty n).trans (adjL_congr (fun i _ j _ => path_start n _ i j)))] at ho2
        have HM := Lib.hid (Mk.start (HBX0.out.keep hb2) ho2 (HB0.out.trans (hb2.mono HB0.out.size)))
        clear ho2 hb2
        go_wp2_with fail
        refine (l1In_any _ _ _ _).mono ?_
        rintro e w' ⟨rfl, rfl⟩
        rw [HF.out]
        go_wp2_with fail
        go_loopw [10, 11] (fun d i wr => ∃ v : Nat, 1 ≤ v ∧ v ≤ n ∧ i = .int .i64 v ∧ d = .int .i64 (dst s (tri v)) ∧ Mk w w2.heap.size n (stepA (symA n (diceR s f)) v 0) wr) (fun _ i _ => n - (intOf i).toNat)
        case atStart => exact ⟨1, Nat.le_refl _, hn1, rfl, by rw [← HD.out]; rfl, HM.out⟩
        case round =>
          obtain ⟨v, hv1, hv, rfl, rfl, hmid⟩ := hrel
          have HM4 := Lib.hid hmid
          clear hmid
          by_cases hlt : v < n
          · obtain ⟨x0, hx0⟩ : ∃ x0, dst s (tri v) = x0 := ⟨_, rfl⟩
            have HX0 := Lib.hid hx0
            rw [hx0]
            clear hx0
            go_wp2_with fail
            go_loopw [10, 12] (fun d i wr => ∃ u : Nat, u ≤ v ∧ i = .int .i64 u ∧ d = .int .i64 (dst s (tri v + u)) ∧ Mk w w2.heap.size n (stepA (symA n (diceR s f)) v u) wr) (fun _ i _ => v - (intOf i).toNat)
            case atStart => exact ⟨0, Nat.zero_le _, rfl, by rw [← HX0.out]; rfl, HM4.out⟩
            case round =>
              rename World => w5
              obtain ⟨u, hu, rfl, rfl, hmid⟩ := hrel
              have HM5 := Lib.hid hmid
              clear hmid
              obtain ⟨K, hK⟩ : ∃ K, tri v + u = K := ⟨_, rfl⟩
              have HK := Lib.hid hK
              have hr0 : diceR s f u v = decide (dst s (K + 1) % 100 < f) := by rw [← hK]; rfl
              rw [hK]
              clear hK
              have g1 := dst_ge s K
              have g2 := dst_lt s K
              have g3 := dst_ge s (K + 1)
              have g4 := dst_lt s (K + 1)
              have r1 := rem_step s K
              have r2 := rem_test s (K + 1)
              obtain ⟨y, hy⟩ : ∃ y, dst s (K + 1) = y := ⟨_, rfl⟩
              obtain ⟨x, hx⟩ : ∃ x, dst s K = x := ⟨_, rfl⟩
              rw [hy] at g3 g4 r1 r2 hr0
              rw [hx] at g1 g2 r1 ⊢
              obtain ⟨z, hz⟩ : ∃ z, y % 100 = z := ⟨_, rfl⟩
              rw [hz] at r2 hr0
              have HY := Lib.hid hy
              have HX := Lib.hid hx
              clear hy hx hz
              by_cases hul : u < v
              · have e1 := symA_lt (diceR s f) hul hlt
                have e2 := symA_gt (diceR s f) hul hlt
                rw [hr0] at e1 e2
                by_cases hzf : z < f
                · rw [decide_eq_true hzf] at e1 e2
                  have HS : Hid (∀ i j, linkA (stepA (symA n (diceR s f)) v u) u v i j = stepA (symA n (diceR s f)) v (u + 1) i j) := fun i j => (stepA_link e1 e2 i j).symm
                  obtain ⟨a6, cap6, kb6, hlk⟩ := HM5.out.link hs2 hn u v (by omega) hlt (by omega)
                  have HLK := Lib.hid hlk
                  clear hlk e1 e2 hr0
                  go_wp2_with fail
                  refine HLK.out.mono ?_
                  rintro e w7 ⟨rfl, kb7, kf7, hm7, _⟩
                  have HM7 := Lib.hid (hm7.congr HS.out)
                  clear hm7
                  go_wp2
                  go_roundw
                  case rel => exact ⟨u + 1, by omega, by go_num, by rw [← HY.out, ← HK.out]; rfl, HM7.out⟩
                  case measure => simp [intOf]; omega
                · rw [decide_eq_false hzf] at e1 e2
                  have HS : Hid (∀ i j, stepA (symA n (diceR s f)) v u i j = stepA (symA n (diceR s f)) v (u + 1) i j) := fun i j => (stepA_skip e1 e2 i j).symm
                  have dz : decide (z < f) = false := decide_eq_false hzf
                  clear e1 e2 hr0 hzf
                  go_wp2
                  go_roundw
                  case rel => exact ⟨u + 1, by omega, by go_num, by rw [← HY.out, ← HK.out]; rfl, HM5.out.congr HS.out⟩
                  case measure => simp [intOf]; omega
              · obtain rfl : u = v := by omega
                clear r1 r2 hr0
                go_wp2
                go_roundw
                case rel => exact ⟨u + 1, by omega, by omega, by go_num, by rw [← HX.out, ← HK.out]; rfl, HM5.out.congr (fun i j => stepA_next (symA_self n _) u i j)⟩
                case measure => simp [intOf]; omega
          · obtain rfl : v = n := by omega
            obtain ⟨a8, cap8, kb8, k08, f08, q08, hp8⟩ := HM4.out.done hs2
            have HP := Lib.hid hp8
            have HQ := Lib.hid q08
            clear hp8 q08
            go_wp2
            refine bodyPost_ret (v := .tuple #[.agg #[.slice a8 v cap8], .bool true]) (by simp [results, Try.results32, go_sem, HQ.out]) rfl ?_
            rw [HG.out, HI.out, ← step_end]
            exact HP.out

      · have dn : decide (t < 0) = true := decide_eq_true h1
        go_enter Try.func32, Try.ntmps32
        go_wp2_with fail
        refine (l6Of_any n _ hn1 hn).mono ?_
        rintro e w2 ⟨a2, c2, rfl, ho2, hb2⟩
        have hs2 : w.heap.size < w2.heap.size := by have := hb2.size; rw [size_alloc1] at this; exact this
        rw [size_alloc1, show maskL n (fun _ => 0) = adjL n (stepA (symA n (diceR s f)) 1 0) from (none_row n).trans ((adjL_empty n).trans (adjL_congr (fun i _ j _ => path_start n _ i j)))] at ho2
        have HM := Lib.hid (Mk.start (HBX0.out.keep hb2) ho2 (HB0.out.trans (hb2.mono HB0.out.size)))
        clear ho2 hb2
        go_wp2_with fail
        refine (l1In_any _ _ _ _).mono ?_
        rintro e w' ⟨rfl, rfl⟩
        rw [HF.out]
        go_wp2_with fail
        go_loopw [10, 11] (fun d i wr => ∃ v : Nat, 1 ≤ v ∧ v ≤ n ∧ i = .int .i64 v ∧ d = .int .i64 (dst s (tri v)) ∧ Mk w w2.heap.size n (stepA (symA n (diceR s f)) v 0) wr) (fun _ i _ => n - (intOf i).toNat)
        case atStart => exact ⟨1, Nat.le_refl _, hn1, rfl, by rw [← HD.out]; rfl, HM.out⟩
        case round =>
          obtain ⟨v, hv1, hv, rfl, rfl, hmid⟩ := hrel
          have HM4 := Lib.hid hmid
          clear hmid
          by_cases hlt : v < n
          · obtain ⟨x0, hx0⟩ : ∃ x0, dst s (tri v) = x0 := ⟨_, rfl⟩
            have HX0 := Lib.hid hx0
            rw [hx0]
            clear hx0
            go_wp2_with fail
            go_loopw [10, 12] (fun d i wr => ∃ u : Nat, u ≤ v ∧ i = .int .i64 u ∧ d = .int .i64 (dst s (tri v + u)) ∧ Mk w w2.heap.size n (stepA (symA n (diceR s f)) v u) wr) (fun _ i _ => v - (intOf i).toNat)
            case atStart => exact ⟨0, Nat.zero_le _, rfl, by rw [← HX0.out]; rfl, HM4.out⟩
            case round =>
              rename World => w5
              obtain ⟨u, hu, rfl, rfl, hmid⟩ := hrel
              have HM5 := Lib.hid hmid
              clear hmid
              obtain ⟨K, hK⟩ : ∃ K, tri v + u = K := ⟨_, rfl⟩
              have HK := Lib.hid hK
              have hr0 : diceR s f u v = decide (dst s (K + 1) % 100 < f) := by rw [← hK]; rfl
              rw [hK]
              clear hK
              have g1 := dst_ge s K
              have g2 := dst_lt s K
              have g3 := dst_ge s (K + 1)
              have g4 := dst_lt s (K + 1)
              have r1 := rem_step s K
              have r2 := rem_test s (K + 1)
              obtain ⟨y, hy⟩ : ∃ y, dst s (K + 1) = y := ⟨_, rfl⟩
              obtain ⟨x, hx⟩ : ∃ x, dst s K = x := ⟨_, rfl⟩
              rw [hy] at g3 g4 r1 r2 hr0
              rw [hx] at g1 g2 r1 ⊢
              obtain ⟨z, hz⟩ : ∃ z, y % 100 = z := ⟨_, rfl⟩
              rw [hz] at r2 hr0
              have HY := Lib.hid hy
              have HX := Lib.hid hx
              clear hy hx hz
              by_cases hul : u < v
              · have e1 := symA_lt (diceR s f) hul hlt
                have e2 := symA_gt (diceR s f) hul hlt
                rw [hr0] at e1 e2
                by_cases hzf : z < f
                · rw [decide_eq_true hzf] at e1 e2
                  have HS : Hid (∀ i j, linkA (stepA (symA n (diceR s f)) v u) u v i j = stepA (symA n (diceR s f)) v (u + 1) i j) := fun i j => (stepA_link e1 e2 i j).symm
                  obtain ⟨a6, cap6, kb6, hlk⟩ := HM5.out.link hs2 hn u v (by omega) hlt (by omega)
                  have HLK := Lib.hid hlk
                  clear hlk e1 e2 hr0
                  go_wp2_with fail
                  refine HLK.out.mono ?_
                  rintro e w7 ⟨rfl, kb7, kf7, hm7, _⟩
                  have HM7 := Lib.hid (hm7.congr HS.out)
                  clear hm7
                  go_wp2
                  go_roundw
                  case rel => exact ⟨u + 1, by omega, by go_num, by rw [← HY.out, ← HK.out]; rfl, HM7.out⟩
                  case measure => simp [intOf]; omega
                · rw [decide_eq_false hzf] at e1 e2
                  have HS : Hid (∀ i j, stepA (symA n (diceR s f)) v u i j = stepA (symA n (diceR s f)) v (u + 1) i j) := fun i j => (stepA_skip e1 e2 i j).symm
                  have dz : decide (z < f) = false := decide_eq_false hzf
                  clear e1 e2 hr0 hzf
                  go_wp2
                  go_roundw
                  case rel => exact ⟨u + 1, by omega, by go_num, by rw [← HY.out, ← HK.out]; rfl, HM5.out.congr HS.out⟩
                  case measure => simp [intOf]; omega
              · obtain rfl : u = v := by omega
                clear r1 r2 hr0
                go_wp2
                go_roundw
                case rel => exact ⟨u + 1, by omega, by omega, by go_num, by rw [← HX.out, ← HK.out]; rfl, HM5.out.congr (fun i j => stepA_next (symA_self n _) u i j)⟩
                case measure => simp [intOf]; omega
          · obtain rfl : v = n := by omega
            obtain ⟨a8, cap8, kb8, k08, f08, q08, hp8⟩ := HM4.out.done hs2
            have HP := Lib.hid hp8
            have HQ := Lib.hid q08
            clear hp8 q08
            go_wp2
            refine bodyPost_ret (v := .tuple #[.agg #[.slice a8 v cap8], .bool true]) (by simp [results, Try.results32, go_sem, HQ.out]) rfl ?_
            rw [HG.out, HI.out, ← step_end]
            exact HP.out

    · have hf' : inB f 0 100 = false := by simpa using hf
      have HI : Hid (diceB (n : Int) f = false) := by show _ = _; unfold diceB; rw [hf', Bool.and_false]
      have HF := Lib.hid hf'
      clear hin hf hf'
      go_enter Try.func32, Try.ntmps32
      go_wp2_with fail
      refine (l6Of_any n _ hn1 hn).mono ?_
      rintro e w2 ⟨a2, c2, rfl, ho2, hb2⟩
      have hs2 : w.heap.size < w2.heap.size := by have := hb2.size; rw [size_alloc1] at this; exact this
      have hbx := HBX0.out.keep hb2
      have hst : Below w2.heap.size w2 (w2.alloc (.cells #[.slice a2 n c2] 30)) := (Below.refl _ _).alloc (Nat.le_refl _) _
      have HBE := Lib.hid (no_end a2 n c2 hbx (HB0.out.trans (hb2.mono HB0.out.size)))
      have k1 := (hbx.keep hst).1
      have k2 := (hbx.keep hst).2
      clear ho2 hb2 hbx hst
      go_wp2_with fail
      refine (l1In_any _ _ _ _).mono ?_
      rintro e w' ⟨rfl, rfl⟩
      rw [HF.out]
      go_wp2
      refine bodyPost_ret (v := .tuple #[.agg #[.slice none 0 0], .bool false]) (by simp [results, Try.results32, go_sem, HBE.out.1]) rfl ?_
      rw [HI.out, genL_no]
      exact GaveGB.no HBE.out.2
  · have hin' : inB n 1 16 = false := by simpa using hin
    have HI : Hid (diceB n f = false) := by show _ = _; unfold diceB; rw [hin', Bool.false_and]
    have HIN := Lib.hid hin'
    clear hin hin'
    go_enter Try.func32, Try.ntmps32
    go_wp2_with fail
    refine (l6Of_no n _ HIN.out).mono ?_
    rintro e w2 ⟨rfl, hb2⟩
    have hs2 : w.heap.size < w2.heap.size := by have := hb2.size; rw [size_alloc1] at this; exact this
    have hbx := HBX0.out.keep hb2
    have hst : Below w2.heap.size w2 (w2.alloc (.cells #[.slice none 0 0] 30)) := (Below.refl _ _).alloc (Nat.le_refl _) _
    have HBE := Lib.hid (no_end none 0 0 hbx (HB0.out.trans (hb2.mono HB0.out.size)))
    have k1 := (hbx.keep hst).1
    have k2 := (hbx.keep hst).2
    clear hb2 hbx hst
    go_wp2
    refine bodyPost_ret (v := .tuple #[.agg #[.slice none 0 0], .bool false]) (by simp [results, Try.results32, go_sem, HBE.out.1]) rfl ?_
    rw [HI.out, genL_no]
    exact GaveGB.no HBE.out.2

end Go.Proofs.Ytojbaepcflkgeaa
