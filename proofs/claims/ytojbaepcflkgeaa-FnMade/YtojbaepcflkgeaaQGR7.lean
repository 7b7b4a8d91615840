/- The texts GR7, GI2, joined. -/
import Derived.Test.YtojbaepcflkgeaaQGR1
import Derived.Test.YtojbaepcflkgeaaQGM3
import Derived.Test.YtojbaepcflkgeaaQGR5

/- Walks: the program's rules of two-sided graphs and grids. Written by program (tools/gen/gr7.py). -/
namespace Go.Proofs.Ytojbaepcflkgeaa
open Go.RowKit

set_option maxHeartbeats 800000 in
theorem twoSidedRule1_any (u v a p : Nat) (w : World) (hp : w.cell? ⟨p, 0, none⟩ = some (.int .i64 (a : Int))) : Calls Try.prog 140 #[.int .i64 (u : Int), .int .i64 (v : Int), .pointer (some ⟨p, 0, none⟩)] w fun e w' => e = .returned (.bool (sidedR a u v)) ∧ Drawn w w' := by
  by_cases h1 : u < a
  · have HE : Hid (decide (a ≤ v) = sidedR a u v) := by show _ = _; unfold sidedR; rw [decide_eq_true h1, Bool.true_and]
    by_cases h2 : a ≤ v
    · have HE2 : Hid (sidedR a u v = true) := by show _ = _; rw [← HE.out, decide_eq_true h2]
      go_enter Try.func140, Try.ntmps140
      go_wp2
      go_ret
      exact ⟨by rw [HE2.out]; rfl, Drawn.refl _⟩
    · have HE2 : Hid (sidedR a u v = false) := by show _ = _; rw [← HE.out, decide_eq_false h2]
      have h3 : v < a := by omega
      go_enter Try.func140, Try.ntmps140
      go_wp2
      go_ret
      exact ⟨by rw [HE2.out]; rfl, Drawn.refl _⟩
  · have HE2 : Hid (sidedR a u v = false) := by show _ = _; unfold sidedR; rw [decide_eq_false h1, Bool.false_and]
    go_enter Try.func140, Try.ntmps140
    go_wp2
    go_ret
    exact ⟨by rw [HE2.out]; rfl, Drawn.refl _⟩

set_option maxHeartbeats 1600000 in
theorem gridRule1_any (u v b p : Nat) (w : World) (hp : w.cell? ⟨p, 0, none⟩ = some (.int .i64 (b : Int))) (huv : u < v) (hv : v < 16) (hb1 : 1 ≤ b) (hb2 : b ≤ 16) : Calls Try.prog 142 #[.int .i64 (u : Int), .int .i64 (v : Int), .pointer (some ⟨p, 0, none⟩)] w fun e w' => e = .returned (.bool (gridR b u v)) ∧ Drawn w w' := by
  have b1 : (u : Int) < 16 := by omega
  have b2 : (v : Int) < 16 := by omega
  have b3 : (b : Int) ≤ 16 := by omega
  by_cases h1 : v = u + b
  · have d1 : ((v : Int) - (u : Int) == (b : Int)) = true := by rw [beq_iff_eq]; omega
    have HE : Hid (gridR b u v = true) := by show _ = _; unfold gridR; rw [decide_eq_true h1, Bool.true_or]
    clear h1
    go_enter Try.func142, Try.ntmps142
    go_wp2
    go_ret
    exact ⟨by rw [HE.out]; rfl, Drawn.refl _⟩
  · have d1 : ((v : Int) - (u : Int) == (b : Int)) = false := by rw [beq_eq_false_iff_ne]; omega
    by_cases h2 : v = u + 1
    · have d2 : ((v : Int) - (u : Int) == 1) = true := by rw [beq_iff_eq]; omega
      obtain ⟨m, hm⟩ : ∃ m, m = v % b := ⟨_, rfl⟩
      have hrem : Int.tmod (v : Int) (b : Int) = (m : Int) := by rw [hm, Int.tmod_eq_emod_of_nonneg (by omega)]; exact (Int.natCast_emod v b).symm
      have HE : Hid (gridR b u v = !decide (m = 0)) := by show _ = _; unfold gridR; rw [decide_eq_false h1, Bool.false_or, decide_eq_true h2, Bool.true_and, hm]
      have hb0 : ((b : Int) == 0) = false := by rw [beq_eq_false_iff_ne]; omega
      have hbm : ((b : Int) == -1) = false := by rw [beq_eq_false_iff_ne]; omega
      clear h1 h2 hm
      by_cases h3 : m = 0
      · subst h3
        have HE2 : Hid (gridR b u v = false) := by show _ = _; rw [HE.out]; rfl
        go_enter Try.func142, Try.ntmps142
        go_wp2
        go_ret
        exact ⟨by rw [HE2.out]; rfl, Drawn.refl _⟩
      · have d3 : ((m : Int) != 0) = true := by rw [bne_iff_ne]; omega
        have HE2 : Hid (gridR b u v = true) := by show _ = _; rw [HE.out, decide_eq_false h3]; rfl
        clear h3
        go_enter Try.func142, Try.ntmps142
        go_wp2
        go_ret
        exact ⟨by rw [HE2.out]; rfl, Drawn.refl _⟩
    · have d2 : ((v : Int) - (u : Int) == 1) = false := by rw [beq_eq_false_iff_ne]; omega
      have HE : Hid (gridR b u v = false) := by show _ = _; unfold gridR; rw [decide_eq_false h1, Bool.false_or, decide_eq_false h2, Bool.false_and]
      clear h1 h2
      go_enter Try.func142, Try.ntmps142
      go_wp2
      go_ret
      exact ⟨by rw [HE.out]; rfl, Drawn.refl _⟩

set_option maxHeartbeats 3200000 in
theorem twoSidedRule_gen (a b : Int) (nv : Value) (w : World) (h : ArgsAt w nv [a, b]) : Calls Try.prog 110 #[nv] w (GenPost w (if inB a 1 16 && inB b 1 16 then a + b else 0) (sidedR a.toNat)) := by
  obtain ⟨k, o, c, rfl, hc⟩ := row_cells h (by simp)
  have h0 : w.cell? ⟨k, o, none⟩ = some (.int .i64 a) := hc 0 (by simp)
  have h1 : w.cell? ⟨k, o + 1, none⟩ = some (.int .i64 b) := hc 1 (by simp)
  have hmf : ∀ (fn : Fn) (first cap : Array Value) (w : World), (Instr.makeFunc fn first cap).run Try.prog w = .ok (.func fn first cap) w := fun _ _ _ _ => rfl
  have a0 : ∀ x, (w.alloc (.cells #[.int .i64 x] 2)).cell? ⟨k, o, none⟩ = some (.int .i64 a) := fun x => cell_keep ((Below.refl _ _).alloc (Nat.le_refl _) _) h0
  have a1 : ∀ x, (w.alloc (.cells #[.int .i64 x] 2)).cell? ⟨k, o + 1, none⟩ = some (.int .i64 b) := fun x => cell_keep ((Below.refl _ _).alloc (Nat.le_refl _) _) h1
  have HB0 : Hid (Below w.heap.size w (w.alloc (.cells #[.int .i64 a] 2)).drew) := ((Below.refl _ _).alloc (Nat.le_refl _) _).drew
  have HC0 : Hid ((w.alloc (.cells #[.int .i64 a] 2)).drew.cell? ⟨w.heap.size, 0, none⟩ = some (.int .i64 a)) := (BoxAt.new _ _ _).1
  have HSZ : Hid ((w.alloc (.cells #[.int .i64 a] 2)).drew.heap.size = w.heap.size + 1) := size_alloc1 _ _
  clear h hc
  by_cases ha : inB a 1 16 = true
  · by_cases hb : inB b 1 16 = true
    · obtain ⟨a, rfl, ha1, ha2⟩ := inB_nat ha (by omega)
      obtain ⟨b, rfl, hb1, hb2⟩ := inB_nat hb (by omega)
      have HN : Hid (∀ e W, GenPost w ((a : Int) + (b : Int)) (sidedR a) e W → GenPost w (if inB (a : Int) 1 16 && inB (b : Int) 1 16 then (a : Int) + (b : Int) else 0) (sidedR (a : Int).toNat) e W) := fun e W h => by
        rw [ha, hb, Bool.and_true, if_pos rfl]
        exact h
      have HA := Lib.hid ha
      have HB := Lib.hid hb
      clear ha hb

      suffices hs : Calls Try.prog 110 #[.slice (some ⟨k, o, none⟩) [(a : Int), (b : Int)].length c] w (GenPost w ((a : Int) + (b : Int)) (sidedR a)) from hs.mono HN.out
      clear HN
      go_enter Try.func110, Try.ntmps110
      go_wp2_with fail
      go_region
      go_wp2_with fail
      refine (sizeOk_any _ _).mono ?_
      rintro e w' ⟨rfl, rfl⟩
      rw [HA.out]
      go_wp2_with fail
      refine (sizeOk_any _ _).mono ?_
      rintro e w' ⟨rfl, rfl⟩
      rw [HB.out]
      go_wp2
      refine bodyPost_ret (v := .tuple #[.int .i64 ((a : Int) + (b : Int)), .func (.func 140) #[] #[.pointer (some ⟨w.heap.size, 0, none⟩)]]) (by simp [results, Try.results110, go_sem]) rfl ?_
      refine ⟨_, rfl, HB0.out, fun hN => ⟨_, _, fun _ w1 => w1.cell? ⟨w.heap.size, 0, none⟩ = some (.int .i64 (a : Int)), rfl, ⟨fun _ _ => by kernel_rfl, fun k w1 w2 hi _ hk => cell_of_same hi (hk _ (by rw [HSZ.out]; omega)), fun u v w1 huv hv hi => ?_⟩, HC0.out⟩⟩
      refine (twoSidedRule1_any u v a w.heap.size w1 hi).mono ?_
      rintro e w2 ⟨rfl, hd⟩
      exact ⟨rfl, cell_drawn hd hi, drawn_touched hd⟩
    · have hb' : inB b 1 16 = false := by simpa using hb
      have HN : Hid (∀ e W, GenPost w 0 (sidedR a.toNat) e W → GenPost w (if inB a 1 16 && inB b 1 16 then a + b else 0) (sidedR a.toNat) e W) := fun e W h => by
        rw [hb', Bool.and_false, if_neg (by simp)]; exact h
      have HA := Lib.hid ha
      have HB := Lib.hid hb'
      clear ha hb hb'
      suffices hs : Calls Try.prog 110 #[.slice (some ⟨k, o, none⟩) [a, b].length c] w (GenPost w 0 (sidedR a.toNat)) from hs.mono HN.out
      clear HN
      go_enter Try.func110, Try.ntmps110
      go_wp2_with fail
      go_region
      go_wp2_with fail
      refine (sizeOk_any _ _).mono ?_
      rintro e w' ⟨rfl, rfl⟩
      rw [HA.out]
      go_wp2_with fail
      refine (sizeOk_any _ _).mono ?_
      rintro e w' ⟨rfl, rfl⟩
      rw [HB.out]
      go_wp2
      refine bodyPost_ret (v := .tuple #[.int .i64 0, .nilFunc]) (by simp [results, Try.results110, go_sem]) rfl ?_
      exact ⟨_, rfl, HB0.out, fun h => by simp [inB] at h⟩
  · have ha' : inB a 1 16 = false := by simpa using ha
    have HN : Hid (∀ e W, GenPost w 0 (sidedR a.toNat) e W → GenPost w (if inB a 1 16 && inB b 1 16 then a + b else 0) (sidedR a.toNat) e W) := fun e W h => by
      rw [ha', Bool.false_and, if_neg (by simp)]; exact h
    have HA := Lib.hid ha'
    clear ha ha'
    suffices hs : Calls Try.prog 110 #[.slice (some ⟨k, o, none⟩) [a, b].length c] w (GenPost w 0 (sidedR a.toNat)) from hs.mono HN.out
    clear HN
    go_enter Try.func110, Try.ntmps110
    go_wp2_with fail
    go_region
    go_wp2_with fail
    refine (sizeOk_any _ _).mono ?_
    rintro e w' ⟨rfl, rfl⟩
    rw [HA.out]
    go_wp2
    refine bodyPost_ret (v := .tuple #[.int .i64 0, .nilFunc]) (by simp [results, Try.results110, go_sem]) rfl ?_
    exact ⟨_, rfl, HB0.out, fun h => by simp [inB] at h⟩

set_option maxHeartbeats 3200000 in
theorem gridRule_gen (a b : Int) (nv : Value) (w : World) (h : ArgsAt w nv [a, b]) : Calls Try.prog 112 #[nv] w (GenPost w (if inB a 1 16 && inB b 1 16 then a * b else 0) (gridR b.toNat)) := by
  obtain ⟨k, o, c, rfl, hc⟩ := row_cells h (by simp)
  have h0 : w.cell? ⟨k, o, none⟩ = some (.int .i64 a) := hc 0 (by simp)
  have h1 : w.cell? ⟨k, o + 1, none⟩ = some (.int .i64 b) := hc 1 (by simp)
  have hmf : ∀ (fn : Fn) (first cap : Array Value) (w : World), (Instr.makeFunc fn first cap).run Try.prog w = .ok (.func fn first cap) w := fun _ _ _ _ => rfl
  have a0 : ∀ x, (w.alloc (.cells #[.int .i64 x] 2)).cell? ⟨k, o, none⟩ = some (.int .i64 a) := fun x => cell_keep ((Below.refl _ _).alloc (Nat.le_refl _) _) h0
  have a1 : ∀ x, (w.alloc (.cells #[.int .i64 x] 2)).cell? ⟨k, o + 1, none⟩ = some (.int .i64 b) := fun x => cell_keep ((Below.refl _ _).alloc (Nat.le_refl _) _) h1
  have HB0 : Hid (Below w.heap.size w (w.alloc (.cells #[.int .i64 b] 2)).drew) := ((Below.refl _ _).alloc (Nat.le_refl _) _).drew
  have HC0 : Hid ((w.alloc (.cells #[.int .i64 b] 2)).drew.cell? ⟨w.heap.size, 0, none⟩ = some (.int .i64 b)) := (BoxAt.new _ _ _).1
  have HSZ : Hid ((w.alloc (.cells #[.int .i64 b] 2)).drew.heap.size = w.heap.size + 1) := size_alloc1 _ _
  clear h hc
  by_cases ha : inB a 1 16 = true
  · by_cases hb : inB b 1 16 = true
    · obtain ⟨a, rfl, ha1, ha2⟩ := inB_nat ha (by omega)
      obtain ⟨b, rfl, hb1, hb2⟩ := inB_nat hb (by omega)
      have HN : Hid (∀ e W, GenPost w ((a : Int) * (b : Int)) (gridR b) e W → GenPost w (if inB (a : Int) 1 16 && inB (b : Int) 1 16 then (a : Int) * (b : Int) else 0) (gridR (b : Int).toNat) e W) := fun e W h => by
        rw [ha, hb, Bool.and_true, if_pos rfl]
        exact h
      have HA := Lib.hid ha
      have HB := Lib.hid hb
      clear ha hb
      obtain ⟨N, hN⟩ : ∃ N, N = a * b := ⟨_, rfl⟩
      have hN256 : N ≤ 16 * 16 := by rw [hN]; exact Nat.mul_le_mul (by omega) (by omega)
      have hq : (a : Int) * (b : Int) = (N : Int) := by rw [hN]; exact (Int.natCast_mul a b).symm
      have hNI : (N : Int) ≤ 256 := by omega
      have HQ := Lib.hid hq
      clear hN
      suffices hs : Calls Try.prog 112 #[.slice (some ⟨k, o, none⟩) [(a : Int), (b : Int)].length c] w (GenPost w ((a : Int) * (b : Int)) (gridR b)) from hs.mono HN.out
      clear HN
      go_enter Try.func112, Try.ntmps112
      go_wp2_with fail
      go_region
      go_wp2_with fail
      refine (sizeOk_any _ _).mono ?_
      rintro e w' ⟨rfl, rfl⟩
      rw [HA.out]
      go_wp2_with fail
      refine (sizeOk_any _ _).mono ?_
      rintro e w' ⟨rfl, rfl⟩
      rw [HB.out]
      go_wp2
      refine bodyPost_ret (v := .tuple #[.int .i64 (N : Int), .func (.func 142) #[] #[.pointer (some ⟨w.heap.size, 0, none⟩)]]) (by simp [results, Try.results112, go_sem]) rfl ?_
      refine ⟨_, by rw [HQ.out], HB0.out, fun hN => ⟨_, _, fun _ w1 => w1.cell? ⟨w.heap.size, 0, none⟩ = some (.int .i64 (b : Int)), rfl, ⟨fun _ _ => by kernel_rfl, fun k w1 w2 hi _ hk => cell_of_same hi (hk _ (by rw [HSZ.out]; omega)), fun u v w1 huv hv hi => ?_⟩, HC0.out⟩⟩
      have hN2 : (1 : Int) ≤ (a : Int) * (b : Int) ∧ (a : Int) * (b : Int) ≤ 16 := by simpa [inB] using hN
      rw [HQ.out] at hN2 hv
      refine (gridRule1_any u v b w.heap.size w1 hi huv (by omega) (by omega) (by omega)).mono ?_
      rintro e w2 ⟨rfl, hd⟩
      exact ⟨rfl, cell_drawn hd hi, drawn_touched hd⟩
    · have hb' : inB b 1 16 = false := by simpa using hb
      have HN : Hid (∀ e W, GenPost w 0 (gridR b.toNat) e W → GenPost w (if inB a 1 16 && inB b 1 16 then a * b else 0) (gridR b.toNat) e W) := fun e W h => by
        rw [hb', Bool.and_false, if_neg (by simp)]; exact h
      have HA := Lib.hid ha
      have HB := Lib.hid hb'
      clear ha hb hb'
      suffices hs : Calls Try.prog 112 #[.slice (some ⟨k, o, none⟩) [a, b].length c] w (GenPost w 0 (gridR b.toNat)) from hs.mono HN.out
      clear HN
      go_enter Try.func112, Try.ntmps112
      go_wp2_with fail
      go_region
      go_wp2_with fail
      refine (sizeOk_any _ _).mono ?_
      rintro e w' ⟨rfl, rfl⟩
      rw [HA.out]
      go_wp2_with fail
      refine (sizeOk_any _ _).mono ?_
      rintro e w' ⟨rfl, rfl⟩
      rw [HB.out]
      go_wp2
      refine bodyPost_ret (v := .tuple #[.int .i64 0, .nilFunc]) (by simp [results, Try.results112, go_sem]) rfl ?_
      exact ⟨_, rfl, HB0.out, fun h => by simp [inB] at h⟩
  · have ha' : inB a 1 16 = false := by simpa using ha
    have HN : Hid (∀ e W, GenPost w 0 (gridR b.toNat) e W → GenPost w (if inB a 1 16 && inB b 1 16 then a * b else 0) (gridR b.toNat) e W) := fun e W h => by
      rw [ha', Bool.false_and, if_neg (by simp)]; exact h
    have HA := Lib.hid ha'
    clear ha ha'
    suffices hs : Calls Try.prog 112 #[.slice (some ⟨k, o, none⟩) [a, b].length c] w (GenPost w 0 (gridR b.toNat)) from hs.mono HN.out
    clear HN
    go_enter Try.func112, Try.ntmps112
    go_wp2_with fail
    go_region
    go_wp2_with fail
    refine (sizeOk_any _ _).mono ?_
    rintro e w' ⟨rfl, rfl⟩
    rw [HA.out]
    go_wp2
    refine bodyPost_ret (v := .tuple #[.int .i64 0, .nilFunc]) (by simp [results, Try.results112, go_sem]) rfl ?_
    exact ⟨_, rfl, HB0.out, fun h => by simp [inB] at h⟩

end Go.Proofs.Ytojbaepcflkgeaa

/- Walks: the program's generators of two numbers. Written by program (tools/gen/genimpl.py). -/
namespace Go.Proofs.Ytojbaepcflkgeaa
open Go.RowKit

theorem inB_two (p : Bool) (N : Int) (h : p = true → 1 ≤ N) : inB (if p then N else 0) 1 16 = (p && decide (N ≤ 16)) := by
  cases p with
  | false => rfl
  | true => rw [if_pos rfl, Bool.true_and, Bool.eq_iff_iff, inB_iff, decide_eq_true_iff]; have := h rfl; omega
theorem both_ge {a b : Int} (h : (inB a 1 16 && inB b 1 16) = true) : 1 ≤ a ∧ 1 ≤ b := by
  rw [Bool.and_eq_true, inB_iff, inB_iff] at h; omega

set_option maxHeartbeats 800000 in
theorem implTwoSided_any (a b : Int) (w : World) : Calls Try.prog 20 #[.int .i64 a, .int .i64 b] w (GaveGB w (genL (sidedB a b) (a + b).toNat (sidedR a.toNat)) (sidedB a b)) := by
  have HB0 : Hid (Below w.heap.size w ((w.alloc (.cells #[.slice none 0 0] 30)).alloc (.cells #[.int .i64 a, .int .i64 b] 2))) := ((Below.refl _ _).alloc (Nat.le_refl _) _).alloc (by simp) _
  have HBX0 : Hid (BoxAt ((w.alloc (.cells #[.slice none 0 0] 30)).alloc (.cells #[.int .i64 a, .int .i64 b] 2)) w.heap.size (.slice none 0 0)) := (BoxAt.new w _ _).keep ((Below.refl _ _).alloc (Nat.le_refl _) _)
  have hrow : ArgsAt ((w.alloc (.cells #[.slice none 0 0] 30)).alloc (.cells #[.int .i64 a, .int .i64 b] 2)) (.slice (some ⟨w.heap.size + 1, 0, none⟩) 2 2) [a, b] := by
    have h := ArgsAt.new (w.alloc (.cells #[.slice none 0 0] 30)) [a, b] 2
    rw [size_alloc1] at h
    exact h
  have HR := Lib.hid hrow
  have HSZ : Hid (((w.alloc (.cells #[.slice none 0 0] 30)).alloc (.cells #[.int .i64 a, .int .i64 b] 2)).heap.size = w.heap.size + 1 + 1) := by show _ = _; rw [size_alloc1, size_alloc1]
  obtain ⟨N, hN⟩ : ∃ N, N = (if inB a 1 16 && inB b 1 16 then a + b else 0) := ⟨_, rfl⟩
  have HQ : Hid (∀ e W, GaveGB w (genL (inB N 1 16) N.toNat (sidedR a.toNat)) (inB N 1 16) e W → GaveGB w (genL (sidedB a b) (a + b).toNat (sidedR a.toNat)) (sidedB a b) e W) := fun e W h => by
    have he : genL (inB N 1 16) N.toNat (sidedR a.toNat) = genL (sidedB a b) (a + b).toNat (sidedR a.toNat) ∧ inB N 1 16 = (sidedB a b) := by
      rw [hN]
      exact genL_to (inB_two _ _ (fun h => by have := both_ge h; omega)) (fun h => by unfold sidedB at h; rw [Bool.and_eq_true] at h; rw [if_pos h.1])
    rw [← he.1, ← he.2]; exact h
  have HG : Hid (∀ W, Below ((w.alloc (.cells #[.slice none 0 0] 30)).alloc (.cells #[.int .i64 a, .int .i64 b] 2)).heap.size ((w.alloc (.cells #[.slice none 0 0] 30)).alloc (.cells #[.int .i64 a, .int .i64 b] 2)) W → Calls Try.prog 110 #[.slice (some ⟨w.heap.size + 1, 0, none⟩) 2 2] W (GenPost W N (sidedR a.toNat))) := fun W hb => by
    rw [hN]
    exact twoSidedRule_gen a b _ W (HR.out.keep hb)
  clear hrow hN
  go_enter Try.func20, Try.ntmps20
  go_wp2_with fail
  refine (made3_any _ N (sidedR a.toNat) _ HG.out).mono ?_
  rintro e w2 ⟨n2, a2, c2, rfl, ho2, hb2⟩
  have kr := (HBX0.out.keep hb2).1
  have kf := (HBX0.out.keep hb2).2
  have hgl := (HBX0.out.keep hb2).lt
  have HB2 : Hid (Below w.heap.size w w2) := HB0.out.trans (hb2.mono HB0.out.size)
  have HO2 := Lib.hid ho2
  have hz := HSZ.out
  clear ho2 hb2
  obtain ⟨ok, hok⟩ : ∃ ok, ok = inB N 1 16 := ⟨_, rfl⟩
  have HK := Lib.hid hok
  rw [← hok]
  clear hok
  go_wp2
  refine bodyPost_ret (v := .tuple #[.agg #[.slice a2 n2 c2], .bool ok]) (by simp [results, Try.results20, go_sem, cell_set_same _ kr]) rfl ?_
  refine HQ.out _ _ ?_
  rw [← HK.out]
  exact ⟨n2, a2, c2, rfl, (by rw [HK.out]; exact HO2.out.setBelow (by simp; omega) _ : OwnGrid _ _ _ _ _ _).mono (by omega), HB2.out.setCell (by simp) _⟩

set_option maxHeartbeats 800000 in
theorem implGridGraph_any (a b : Int) (w : World) : Calls Try.prog 21 #[.int .i64 a, .int .i64 b] w (GaveGB w (genL (gridB a b) (a * b).toNat (gridR b.toNat)) (gridB a b)) := by
  have HB0 : Hid (Below w.heap.size w ((w.alloc (.cells #[.slice none 0 0] 30)).alloc (.cells #[.int .i64 a, .int .i64 b] 2))) := ((Below.refl _ _).alloc (Nat.le_refl _) _).alloc (by simp) _
  have HBX0 : Hid (BoxAt ((w.alloc (.cells #[.slice none 0 0] 30)).alloc (.cells #[.int .i64 a, .int .i64 b] 2)) w.heap.size (.slice none 0 0)) := (BoxAt.new w _ _).keep ((Below.refl _ _).alloc (Nat.le_refl _) _)
  have hrow : ArgsAt ((w.alloc (.cells #[.slice none 0 0] 30)).alloc (.cells #[.int .i64 a, .int .i64 b] 2)) (.slice (some ⟨w.heap.size + 1, 0, none⟩) 2 2) [a, b] := by
    have h := ArgsAt.new (w.alloc (.cells #[.slice none 0 0] 30)) [a, b] 2
    rw [size_alloc1] at h
    exact h
  have HR := Lib.hid hrow
  have HSZ : Hid (((w.alloc (.cells #[.slice none 0 0] 30)).alloc (.cells #[.int .i64 a, .int .i64 b] 2)).heap.size = w.heap.size + 1 + 1) := by show _ = _; rw [size_alloc1, size_alloc1]
  obtain ⟨N, hN⟩ : ∃ N, N = (if inB a 1 16 && inB b 1 16 then a * b else 0) := ⟨_, rfl⟩
  have HQ : Hid (∀ e W, GaveGB w (genL (inB N 1 16) N.toNat (gridR b.toNat)) (inB N 1 16) e W → GaveGB w (genL (gridB a b) (a * b).toNat (gridR b.toNat)) (gridB a b) e W) := fun e W h => by
    have he : genL (inB N 1 16) N.toNat (gridR b.toNat) = genL (gridB a b) (a * b).toNat (gridR b.toNat) ∧ inB N 1 16 = (gridB a b) := by
      rw [hN]
      exact genL_to (inB_two _ _ (fun h => by have := both_ge h; have := Int.mul_le_mul this.1 this.2 (by decide) (by omega); simpa using this)) (fun h => by unfold gridB at h; rw [Bool.and_eq_true] at h; rw [if_pos h.1])
    rw [← he.1, ← he.2]; exact h
  have HG : Hid (∀ W, Below ((w.alloc (.cells #[.slice none 0 0] 30)).alloc (.cells #[.int .i64 a, .int .i64 b] 2)).heap.size ((w.alloc (.cells #[.slice none 0 0] 30)).alloc (.cells #[.int .i64 a, .int .i64 b] 2)) W → Calls Try.prog 112 #[.slice (some ⟨w.heap.size + 1, 0, none⟩) 2 2] W (GenPost W N (gridR b.toNat))) := fun W hb => by
    rw [hN]
    exact gridRule_gen a b _ W (HR.out.keep hb)
  clear hrow hN
  go_enter Try.func21, Try.ntmps21
  go_wp2_with fail
  refine (made5_any _ N (gridR b.toNat) _ HG.out).mono ?_
  rintro e w2 ⟨n2, a2, c2, rfl, ho2, hb2⟩
  have kr := (HBX0.out.keep hb2).1
  have kf := (HBX0.out.keep hb2).2
  have hgl := (HBX0.out.keep hb2).lt
  have HB2 : Hid (Below w.heap.size w w2) := HB0.out.trans (hb2.mono HB0.out.size)
  have HO2 := Lib.hid ho2
  have hz := HSZ.out
  clear ho2 hb2
  obtain ⟨ok, hok⟩ : ∃ ok, ok = inB N 1 16 := ⟨_, rfl⟩
  have HK := Lib.hid hok
  rw [← hok]
  clear hok
  go_wp2
  refine bodyPost_ret (v := .tuple #[.agg #[.slice a2 n2 c2], .bool ok]) (by simp [results, Try.results21, go_sem, cell_set_same _ kr]) rfl ?_
  refine HQ.out _ _ ?_
  rw [← HK.out]
  exact ⟨n2, a2, c2, rfl, (by rw [HK.out]; exact HO2.out.setBelow (by simp; omega) _ : OwnGrid _ _ _ _ _ _).mono (by omega), HB2.out.setCell (by simp) _⟩

end Go.Proofs.Ytojbaepcflkgeaa
