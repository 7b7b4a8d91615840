/- The texts GR7, GI2, KM1, KM2, joined. -/
import Derived.Test.YtojbaepcflkgeaaQGR1
import Derived.Test.YtojbaepcflkgeaaQGM3
import Derived.Test.YtojbaepcflkgeaaQGR5
import Derived.Test.YtojbaepcflkgeaaQFP1
import Derived.Test.YtojbaepcflkgeaaQM7
import Derived.Test.YtojbaepcflkgeaaQEP1
import Derived.Test.YtojbaepcflkgeaaQD5
import Derived.Test.YtojbaepcflkgeaaQK1
import Derived.Test.YtojbaepcflkgeaaQS1
import Derived.Test.YtojbaepcflkgeaaQC6

/- Walks: the program's rules of two-sided graphs and grids. Written by program (tools/gen/gr7.py). -/
namespace Go.Proofs.Ytojbaepcflkgeaa
open Go.RowKit

set_option maxHeartbeats 800000 in
theorem twoSidedRule1_any (u v a p : Nat) (w : World) (hp : w.cell? ⟨p, 0, none⟩ = some (.int .i64 (a : Int))) : Calls Try.prog 140 #[.int .i64 (u : Int), .int .i64 (v : Int), .pointer (some ⟨p, 0, none⟩)] w fun e w' => e = .returned (.bool (sidedR a u v)) ∧ Drawn w w' := by
  by_cases h1 : u < a
  · have HE : Hid (decide (a ≤ v) = sidedR a u v) := by show _ = _; unfold sidedR; rw [decide_eq_true h1, Bool.true_and]
    by_cases h2 : a ≤ v
    · have HE2 : Hid (sidedR a u v = true) := by show _ = _; rw [← HE.out, decide_eq_true h2]
      go_enter Try.func140, Try.ntmps140
      go_wp2
      go_ret
      exact ⟨by rw [HE2.out]; rfl, Drawn.refl _⟩
    · have HE2 : Hid (sidedR a u v = false) := by show _ = _; rw [← HE.out, decide_eq_false h2]
      have h3 : v < a := by omega
      go_enter Try.func140, Try.ntmps140
      go_wp2
      go_ret
      exact ⟨by rw [HE2.out]; rfl, Drawn.refl _⟩
  · have HE2 : Hid (sidedR a u v = false) := by show _ = _; unfold sidedR; rw [decide_eq_false h1, Bool.false_and]
    go_enter Try.func140, Try.ntmps140
    go_wp2
    go_ret
    exact ⟨by rw [HE2.out]; rfl, Drawn.refl _⟩

set_option maxHeartbeats 1600000 in
theorem gridRule1_any (u v b p : Nat) (w : World) (hp : w.cell? ⟨p, 0, none⟩ = some (.int .i64 (b : Int))) (huv : u < v) (hv : v < 16) (hb1 : 1 ≤ b) (hb2 : b ≤ 16) : Calls Try.prog 142 #[.int .i64 (u : Int), .int .i64 (v : Int), .pointer (some ⟨p, 0, none⟩)] w fun e w' => e = .returned (.bool (gridR b u v)) ∧ Drawn w w' := by
  have b1 : (u : Int) < 16 := by omega
  have b2 : (v : Int) < 16 := by omega
  have b3 : (b : Int) ≤ 16 := by omega
  by_cases h1 : v = u + b
  · have d1 : ((v : Int) - (u : Int) == (b : Int)) = true := by rw [beq_iff_eq]; omega
    have HE : Hid (gridR b u v = true) := by show _ = _; unfold gridR; rw [decide_eq_true h1, Bool.true_or]
    clear h1
    go_enter Try.func142, Try.ntmps142
    go_wp2
    go_ret
    exact ⟨by rw [HE.out]; rfl, Drawn.refl _⟩
  · have d1 : ((v : Int) - (u : Int) == (b : Int)) = false := by rw [beq_eq_false_iff_ne]; omega
    by_cases h2 : v = u + 1
    · have d2 : ((v : Int) - (u : Int) == 1) = true := by rw [beq_iff_eq]; omega
      obtain ⟨m, hm⟩ : ∃ m, m = v % b := ⟨_, rfl⟩
      have hrem : Int.tmod (v : Int) (b : Int) = (m : Int) := by rw [hm, Int.tmod_eq_emod_of_nonneg (by omega)]; exact (Int.natCast_emod v b).symm
      have HE : Hid (gridR b u v = !decide (m = 0)) := by show _ = _; unfold gridR; rw [decide_eq_false h1, Bool.false_or, decide_eq_true h2, Bool.true_and, hm]
      have hb0 : ((b : Int) == 0) = false := by rw [beq_eq_false_iff_ne]; omega
      have hbm : ((b : Int) == -1) = false := by rw [beq_eq_false_iff_ne]; omega
      clear h1 h2 hm
      by_cases h3 : m = 0
      · subst h3
        have HE2 : Hid (gridR b u v = false) := by show _ = _; rw [HE.out]; rfl
        go_enter Try.func142, Try.ntmps142
        go_wp2
        go_ret
        exact ⟨by rw [HE2.out]; rfl, Drawn.refl _⟩
      · have d3 : ((m : Int) != 0) = true := by rw [bne_iff_ne]; omega
        have HE2 : Hid (gridR b u v = true) := by show _ = _; rw [HE.out, decide_eq_false h3]; rfl
        clear h3
        go_enter Try.func142, Try.ntmps142
        go_wp2
        go_ret
        exact ⟨by rw [HE2.out]; rfl, Drawn.refl _⟩
    · have d2 : ((v : Int) - (u : Int) == 1) = false := by rw [beq_eq_false_iff_ne]; omega
      have HE : Hid (gridR b u v = false) := by show _ = _; unfold gridR; rw [decide_eq_false h1, Bool.false_or, decide_eq_false h2, Bool.false_and]
      clear h1 h2
      go_enter Try.func142, Try.ntmps142
      go_wp2
      go_ret
      exact ⟨by rw [HE.out]; rfl, Drawn.refl _⟩

set_option maxHeartbeats 3200000 in
theorem twoSidedRule_gen (a b : Int) (nv : Value) (w : World) (h : ArgsAt w nv [a, b]) : Calls Try.prog 110 #[nv] w (GenPost w (if inB a 1 16 && inB b 1 16 then a + b else 0) (sidedR a.toNat)) := by
  obtain ⟨k, o, c, rfl, hc⟩ := row_cells h (by simp)
  have h0 : w.cell? ⟨k, o, none⟩ = some (.int .i64 a) := hc 0 (by simp)
  have h1 : w.cell? ⟨k, o + 1, none⟩ = some (.int .i64 b) := hc 1 (by simp)
  have hmf : ∀ (fn : Fn) (first cap : Array Value) (w : World), (Instr.makeFunc fn first cap).run Try.prog w = .ok (.func fn first cap) w := fun _ _ _ _ => rfl
  have a0 : ∀ x, (w.alloc (.cells #[.int .i64 x] 2)).cell? ⟨k, o, none⟩ = some (.int .i64 a) := fun x => cell_keep ((Below.refl _ _).alloc (Nat.le_refl _) _) h0
  have a1 : ∀ x, (w.alloc (.cells #[.int .i64 x] 2)).cell? ⟨k, o + 1, none⟩ = some (.int .i64 b) := fun x => cell_keep ((Below.refl _ _).alloc (Nat.le_refl _) _) h1
  have HB0 : Hid (Below w.heap.size w (w.alloc (.cells #[.int .i64 a] 2)).drew) := ((Below.refl _ _).alloc (Nat.le_refl _) _).drew
  have HC0 : Hid ((w.alloc (.cells #[.int .i64 a] 2)).drew.cell? ⟨w.heap.size, 0, none⟩ = some (.int .i64 a)) := (BoxAt.new _ _ _).1
  have HSZ : Hid ((w.alloc (.cells #[.int .i64 a] 2)).drew.heap.size = w.heap.size + 1) := size_alloc1 _ _
  clear h hc
  by_cases ha : inB a 1 16 = true
  · by_cases hb : inB b 1 16 = true
    · obtain ⟨a, rfl, ha1, ha2⟩ := inB_nat ha (by omega)
      obtain ⟨b, rfl, hb1, hb2⟩ := inB_nat hb (by omega)
      have HN : Hid (∀ e W, GenPost w ((a : Int) + (b : Int)) (sidedR a) e W → GenPost w (if inB (a : Int) 1 16 && inB (b : Int) 1 16 then (a : Int) + (b : Int) else 0) (sidedR (a : Int).toNat) e W) := fun e W h => by
        rw [ha, hb, Bool.and_true, if_pos rfl]
        exact h
      have HA := Lib.hid ha
      have HB := Lib.hid hb
      clear ha hb

      suffices hs : Calls Try.prog 110 #[.slice (some ⟨k, o, none⟩) [(a : Int), (b : Int)].length c] w (GenPost w ((a : Int) + (b : Int)) (sidedR a)) from hs.mono HN.out
      clear HN
      go_enter Try.func110, Try.ntmps110
      go_wp2_with fail
      go_region
      go_wp2_with fail
      refine (sizeOk_any _ _).mono ?_
      rintro e w' ⟨rfl, rfl⟩
      rw [HA.out]
      go_wp2_with fail
      refine (sizeOk_any _ _).mono ?_
      rintro e w' ⟨rfl, rfl⟩
      rw [HB.out]
      go_wp2
      refine bodyPost_ret (v := .tuple #[.int .i64 ((a : Int) + (b : Int)), .func (.func 140) #[] #[.pointer (some ⟨w.heap.size, 0, none⟩)]]) (by simp [results, Try.results110, go_sem]) rfl ?_
      refine ⟨_, rfl, HB0.out, fun hN => ⟨_, _, fun _ w1 => w1.cell? ⟨w.heap.size, 0, none⟩ = some (.int .i64 (a : Int)), rfl, ⟨fun _ _ => by kernel_rfl, fun k w1 w2 hi _ hk => cell_of_same hi (hk _ (by rw [HSZ.out]; omega)), fun u v w1 huv hv hi => ?_⟩, HC0.out⟩⟩
      refine (twoSidedRule1_any u v a w.heap.size w1 hi).mono ?_
      rintro e w2 ⟨rfl, hd⟩
      exact ⟨rfl, cell_drawn hd hi, drawn_touched hd⟩
    · have hb' : inB b 1 16 = false := by simpa using hb
      have HN : Hid (∀ e W, GenPost w 0 (sidedR a.toNat) e W → GenPost w (if inB a 1 16 && inB b 1 16 then a + b else 0) (sidedR a.toNat) e W) := fun e W h => by
        rw [hb', Bool.and_false, if_neg (by simp)]; exact h
      have HA := Lib.hid ha
      have HB := Lib.hid hb'
      clear ha hb hb'
      suffices hs : Calls Try.prog 110 #[.slice (some ⟨k, o, none⟩) [a, b].length c] w (GenPost w 0 (sidedR a.toNat)) from hs.mono HN.out
      clear HN
      go_enter Try.func110, Try.ntmps110
      go_wp2_with fail
      go_region
      go_wp2_with fail
      refine (sizeOk_any _ _).mono ?_
      rintro e w' ⟨rfl, rfl⟩
      rw [HA.out]
      go_wp2_with fail
      refine (sizeOk_any _ _).mono ?_
      rintro e w' ⟨rfl, rfl⟩
      rw [HB.out]
      go_wp2
      refine bodyPost_ret (v := .tuple #[.int .i64 0, .nilFunc]) (by simp [results, Try.results110, go_sem]) rfl ?_
      exact ⟨_, rfl, HB0.out, fun h => by simp [inB] at h⟩
  · have ha' : inB a 1 16 = false := by simpa using ha
    have HN : Hid (∀ e W, GenPost w 0 (sidedR a.toNat) e W → GenPost w (if inB a 1 16 && inB b 1 16 then a + b else 0) (sidedR a.toNat) e W) := fun e W h => by
      rw [ha', Bool.false_and, if_neg (by simp)]; exact h
    have HA := Lib.hid ha'
    clear ha ha'
    suffices hs : Calls Try.prog 110 #[.slice (some ⟨k, o, none⟩) [a, b].length c] w (GenPost w 0 (sidedR a.toNat)) from hs.mono HN.out
    clear HN
    go_enter Try.func110, Try.ntmps110
    go_wp2_with fail
    go_region
    go_wp2_with fail
    refine (sizeOk_any _ _).mono ?_
    rintro e w' ⟨rfl, rfl⟩
    rw [HA.out]
    go_wp2
    refine bodyPost_ret (v := .tuple #[.int .i64 0, .nilFunc]) (by simp [results, Try.results110, go_sem]) rfl ?_
    exact ⟨_, rfl, HB0.out, fun h => by simp [inB] at h⟩

set_option maxHeartbeats 3200000 in
theorem gridRule_gen (a b : Int) (nv : Value) (w : World) (h : ArgsAt w nv [a, b]) : Calls Try.prog 112 #[nv] w (GenPost w (if inB a 1 16 && inB b 1 16 then a * b else 0) (gridR b.toNat)) := by
  obtain ⟨k, o, c, rfl, hc⟩ := row_cells h (by simp)
  have h0 : w.cell? ⟨k, o, none⟩ = some (.int .i64 a) := hc 0 (by simp)
  have h1 : w.cell? ⟨k, o + 1, none⟩ = some (.int .i64 b) := hc 1 (by simp)
  have hmf : ∀ (fn : Fn) (first cap : Array Value) (w : World), (Instr.makeFunc fn first cap).run Try.prog w = .ok (.func fn first cap) w := fun _ _ _ _ => rfl
  have a0 : ∀ x, (w.alloc (.cells #[.int .i64 x] 2)).cell? ⟨k, o, none⟩ = some (.int .i64 a) := fun x => cell_keep ((Below.refl _ _).alloc (Nat.le_refl _) _) h0
  have a1 : ∀ x, (w.alloc (.cells #[.int .i64 x] 2)).cell? ⟨k, o + 1, none⟩ = some (.int .i64 b) := fun x => cell_keep ((Below.refl _ _).alloc (Nat.le_refl _) _) h1
  have HB0 : Hid (Below w.heap.size w (w.alloc (.cells #[.int .i64 b] 2)).drew) := ((Below.refl _ _).alloc (Nat.le_refl _) _).drew
  have HC0 : Hid ((w.alloc (.cells #[.int .i64 b] 2)).drew.cell? ⟨w.heap.size, 0, none⟩ = some (.int .i64 b)) := (BoxAt.new _ _ _).1
  have HSZ : Hid ((w.alloc (.cells #[.int .i64 b] 2)).drew.heap.size = w.heap.size + 1) := size_alloc1 _ _
  clear h hc
  by_cases ha : inB a 1 16 = true
  · by_cases hb : inB b 1 16 = true
    · obtain ⟨a, rfl, ha1, ha2⟩ := inB_nat ha (by omega)
      obtain ⟨b, rfl, hb1, hb2⟩ := inB_nat hb (by omega)
      have HN : Hid (∀ e W, GenPost w ((a : Int) * (b : Int)) (gridR b) e W → GenPost w (if inB (a : Int) 1 16 && inB (b : Int) 1 16 then (a : Int) * (b : Int) else 0) (gridR (b : Int).toNat) e W) := fun e W h => by
        rw [ha, hb, Bool.and_true, if_pos rfl]
        exact h
      have HA := Lib.hid ha
      have HB := Lib.hid hb
      clear ha hb
      obtain ⟨N, hN⟩ : ∃ N, N = a * b := ⟨_, rfl⟩
      have hN256 : N ≤ 16 * 16 := by rw [hN]; exact Nat.mul_le_mul (by omega) (by omega)
      have hq : (a : Int) * (b : Int) = (N : Int) := by rw [hN]; exact (Int.natCast_mul a b).symm
      have hNI : (N : Int) ≤ 256 := by omega
      have HQ := Lib.hid hq
      clear hN
      suffices hs : Calls Try.prog 112 #[.slice (some ⟨k, o, none⟩) [(a : Int), (b : Int)].length c] w (GenPost w ((a : Int) * (b : Int)) (gridR b)) from hs.mono HN.out
      clear HN
      go_enter Try.func112, Try.ntmps112
      go_wp2_with fail
      go_region
      go_wp2_with fail
      refine (sizeOk_any _ _).mono ?_
      rintro e w' ⟨rfl, rfl⟩
      rw [HA.out]
      go_wp2_with fail
      refine (sizeOk_any _ _).mono ?_
      rintro e w' ⟨rfl, rfl⟩
      rw [HB.out]
      go_wp2
      refine bodyPost_ret (v := .tuple #[.int .i64 (N : Int), .func (.func 142) #[] #[.pointer (some ⟨w.heap.size, 0, none⟩)]]) (by simp [results, Try.results112, go_sem]) rfl ?_
      refine ⟨_, by rw [HQ.out], HB0.out, fun hN => ⟨_, _, fun _ w1 => w1.cell? ⟨w.heap.size, 0, none⟩ = some (.int .i64 (b : Int)), rfl, ⟨fun _ _ => by kernel_rfl, fun k w1 w2 hi _ hk => cell_of_same hi (hk _ (by rw [HSZ.out]; omega)), fun u v w1 huv hv hi => ?_⟩, HC0.out⟩⟩
      have hN2 : (1 : Int) ≤ (a : Int) * (b : Int) ∧ (a : Int) * (b : Int) ≤ 16 := by simpa [inB] using hN
      rw [HQ.out] at hN2 hv
      refine (gridRule1_any u v b w.heap.size w1 hi huv (by omega) (by omega) (by omega)).mono ?_
      rintro e w2 ⟨rfl, hd⟩
      exact ⟨rfl, cell_drawn hd hi, drawn_touched hd⟩
    · have hb' : inB b 1 16 = false := by simpa using hb
      have HN : Hid (∀ e W, GenPost w 0 (gridR b.toNat) e W → GenPost w (if inB a 1 16 && inB b 1 16 then a * b else 0) (gridR b.toNat) e W) := fun e W h => by
        rw [hb', Bool.and_false, if_neg (by simp)]; exact h
      have HA := Lib.hid ha
      have HB := Lib.hid hb'
      clear ha hb hb'
      suffices hs : Calls Try.prog 112 #[.slice (some ⟨k, o, none⟩) [a, b].length c] w (GenPost w 0 (gridR b.toNat)) from hs.mono HN.out
      clear HN
      go_enter Try.func112, Try.ntmps112
      go_wp2_with fail
      go_region
      go_wp2_with fail
      refine (sizeOk_any _ _).mono ?_
      rintro e w' ⟨rfl, rfl⟩
      rw [HA.out]
      go_wp2_with fail
      refine (sizeOk_any _ _).mono ?_
      rintro e w' ⟨rfl, rfl⟩
      rw [HB.out]
      go_wp2
      refine bodyPost_ret (v := .tuple #[.int .i64 0, .nilFunc]) (by simp [results, Try.results112, go_sem]) rfl ?_
      exact ⟨_, rfl, HB0.out, fun h => by simp [inB] at h⟩
  · have ha' : inB a 1 16 = false := by simpa using ha
    have HN : Hid (∀ e W, GenPost w 0 (gridR b.toNat) e W → GenPost w (if inB a 1 16 && inB b 1 16 then a * b else 0) (gridR b.toNat) e W) := fun e W h => by
      rw [ha', Bool.false_and, if_neg (by simp)]; exact h
    have HA := Lib.hid ha'
    clear ha ha'
    suffices hs : Calls Try.prog 112 #[.slice (some ⟨k, o, none⟩) [a, b].length c] w (GenPost w 0 (gridR b.toNat)) from hs.mono HN.out
    clear HN
    go_enter Try.func112, Try.ntmps112
    go_wp2_with fail
    go_region
    go_wp2_with fail
    refine (sizeOk_any _ _).mono ?_
    rintro e w' ⟨rfl, rfl⟩
    rw [HA.out]
    go_wp2
    refine bodyPost_ret (v := .tuple #[.int .i64 0, .nilFunc]) (by simp [results, Try.results112, go_sem]) rfl ?_
    exact ⟨_, rfl, HB0.out, fun h => by simp [inB] at h⟩

end Go.Proofs.Ytojbaepcflkgeaa

/- Walks: the program's generators of two numbers. Written by program (tools/gen/genimpl.py). -/
namespace Go.Proofs.Ytojbaepcflkgeaa
open Go.RowKit

theorem inB_two (p : Bool) (N : Int) (h : p = true → 1 ≤ N) : inB (if p then N else 0) 1 16 = (p && decide (N ≤ 16)) := by
  cases p with
  | false => rfl
  | true => rw [if_pos rfl, Bool.true_and, Bool.eq_iff_iff, inB_iff, decide_eq_true_iff]; have := h rfl; omega
theorem both_ge {a b : Int} (h : (inB a 1 16 && inB b 1 16) = true) : 1 ≤ a ∧ 1 ≤ b := by
  rw [Bool.and_eq_true, inB_iff, inB_iff] at h; omega

set_option maxHeartbeats 800000 in
theorem implTwoSided_any (a b : Int) (w : World) : Calls Try.prog 20 #[.int .i64 a, .int .i64 b] w (GaveGB w (genL (sidedB a b) (a + b).toNat (sidedR a.toNat)) (sidedB a b)) := by
  have HB0 : Hid (Below w.heap.size w ((w.alloc (.cells #[.slice none 0 0] 30)).alloc (.cells #[.int .i64 a, .int .i64 b] 2))) := ((Below.refl _ _).alloc (Nat.le_refl _) _).alloc (by simp) _
  have HBX0 : Hid (BoxAt ((w.alloc (.cells #[.slice none 0 0] 30)).alloc (.cells #[.int .i64 a, .int .i64 b] 2)) w.heap.size (.slice none 0 0)) := (BoxAt.new w _ _).keep ((Below.refl _ _).alloc (Nat.le_refl _) _)
  have hrow : ArgsAt ((w.alloc (.cells #[.slice none 0 0] 30)).alloc (.cells #[.int .i64 a, .int .i64 b] 2)) (.slice (some ⟨w.heap.size + 1, 0, none⟩) 2 2) [a, b] := by
    have h := ArgsAt.new (w.alloc (.cells #[.slice none 0 0] 30)) [a, b] 2
    rw [size_alloc1] at h
    exact h
  have HR := Lib.hid hrow
  have HSZ : Hid (((w.alloc (.cells #[.slice none 0 0] 30)).alloc (.cells #[.int .i64 a, .int .i64 b] 2)).heap.size = w.heap.size + 1 + 1) := by show _ = _; rw [size_alloc1, size_alloc1]
  obtain ⟨N, hN⟩ : ∃ N, N = (if inB a 1 16 && inB b 1 16 then a + b else 0) := ⟨_, rfl⟩
  have HQ : Hid (∀ e W, GaveGB w (genL (inB N 1 16) N.toNat (sidedR a.toNat)) (inB N 1 16) e W → GaveGB w (genL (sidedB a b) (a + b).toNat (sidedR a.toNat)) (sidedB a b) e W) := fun e W h => by
    have he : genL (inB N 1 16) N.toNat (sidedR a.toNat) = genL (sidedB a b) (a + b).toNat (sidedR a.toNat) ∧ inB N 1 16 = (sidedB a b) := by
      rw [hN]
      exact genL_to (inB_two _ _ (fun h => by have := both_ge h; omega)) (fun h => by unfold sidedB at h; rw [Bool.and_eq_true] at h; rw [if_pos h.1])
    rw [← he.1, ← he.2]; exact h
  have HG : Hid (∀ W, Below ((w.alloc (.cells #[.slice none 0 0] 30)).alloc (.cells #[.int .i64 a, .int .i64 b] 2)).heap.size ((w.alloc (.cells #[.slice none 0 0] 30)).alloc (.cells #[.int .i64 a, .int .i64 b] 2)) W → Calls Try.prog 110 #[.slice (some ⟨w.heap.size + 1, 0, none⟩) 2 2] W (GenPost W N (sidedR a.toNat))) := fun W hb => by
    rw [hN]
    exact twoSidedRule_gen a b _ W (HR.out.keep hb)
  clear hrow hN
  go_enter Try.func20, Try.ntmps20
  go_wp2_with fail
  refine (made3_any _ N (sidedR a.toNat) _ HG.out).mono ?_
  rintro e w2 ⟨n2, a2, c2, rfl, ho2, hb2⟩
  have kr := (HBX0.out.keep hb2).1
  have kf := (HBX0.out.keep hb2).2
  have hgl := (HBX0.out.keep hb2).lt
  have HB2 : Hid (Below w.heap.size w w2) := HB0.out.trans (hb2.mono HB0.out.size)
  have HO2 := Lib.hid ho2
  have hz := HSZ.out
  clear ho2 hb2
  obtain ⟨ok, hok⟩ : ∃ ok, ok = inB N 1 16 := ⟨_, rfl⟩
  have HK := Lib.hid hok
  rw [← hok]
  clear hok
  go_wp2
  refine bodyPost_ret (v := .tuple #[.agg #[.slice a2 n2 c2], .bool ok]) (by simp [results, Try.results20, go_sem, cell_set_same _ kr]) rfl ?_
  refine HQ.out _ _ ?_
  rw [← HK.out]
  exact ⟨n2, a2, c2, rfl, (by rw [HK.out]; exact HO2.out.setBelow (by simp; omega) _ : OwnGrid _ _ _ _ _ _).mono (by omega), HB2.out.setCell (by simp) _⟩

set_option maxHeartbeats 800000 in
theorem implGridGraph_any (a b : Int) (w : World) : Calls Try.prog 21 #[.int .i64 a, .int .i64 b] w (GaveGB w (genL (gridB a b) (a * b).toNat (gridR b.toNat)) (gridB a b)) := by
  have HB0 : Hid (Below w.heap.size w ((w.alloc (.cells #[.slice none 0 0] 30)).alloc (.cells #[.int .i64 a, .int .i64 b] 2))) := ((Below.refl _ _).alloc (Nat.le_refl _) _).alloc (by simp) _
  have HBX0 : Hid (BoxAt ((w.alloc (.cells #[.slice none 0 0] 30)).alloc (.cells #[.int .i64 a, .int .i64 b] 2)) w.heap.size (.slice none 0 0)) := (BoxAt.new w _ _).keep ((Below.refl _ _).alloc (Nat.le_refl _) _)
  have hrow : ArgsAt ((w.alloc (.cells #[.slice none 0 0] 30)).alloc (.cells #[.int .i64 a, .int .i64 b] 2)) (.slice (some ⟨w.heap.size + 1, 0, none⟩) 2 2) [a, b] := by
    have h := ArgsAt.new (w.alloc (.cells #[.slice none 0 0] 30)) [a, b] 2
    rw [size_alloc1] at h
    exact h
  have HR := Lib.hid hrow
  have HSZ : Hid (((w.alloc (.cells #[.slice none 0 0] 30)).alloc (.cells #[.int .i64 a, .int .i64 b] 2)).heap.size = w.heap.size + 1 + 1) := by show _ = _; rw [size_alloc1, size_alloc1]
  obtain ⟨N, hN⟩ : ∃ N, N = (if inB a 1 16 && inB b 1 16 then a * b else 0) := ⟨_, rfl⟩
  have HQ : Hid (∀ e W, GaveGB w (genL (inB N 1 16) N.toNat (gridR b.toNat)) (inB N 1 16) e W → GaveGB w (genL (gridB a b) (a * b).toNat (gridR b.toNat)) (gridB a b) e W) := fun e W h => by
    have he : genL (inB N 1 16) N.toNat (gridR b.toNat) = genL (gridB a b) (a * b).toNat (gridR b.toNat) ∧ inB N 1 16 = (gridB a b) := by
      rw [hN]
      exact genL_to (inB_two _ _ (fun h => by have := both_ge h; have := Int.mul_le_mul this.1 this.2 (by decide) (by omega); simpa using this)) (fun h => by unfold gridB at h; rw [Bool.and_eq_true] at h; rw [if_pos h.1])
    rw [← he.1, ← he.2]; exact h
  have HG : Hid (∀ W, Below ((w.alloc (.cells #[.slice none 0 0] 30)).alloc (.cells #[.int .i64 a, .int .i64 b] 2)).heap.size ((w.alloc (.cells #[.slice none 0 0] 30)).alloc (.cells #[.int .i64 a, .int .i64 b] 2)) W → Calls Try.prog 112 #[.slice (some ⟨w.heap.size + 1, 0, none⟩) 2 2] W (GenPost W N (gridR b.toNat))) := fun W hb => by
    rw [hN]
    exact gridRule_gen a b _ W (HR.out.keep hb)
  clear hrow hN
  go_enter Try.func21, Try.ntmps21
  go_wp2_with fail
  refine (made5_any _ N (gridR b.toNat) _ HG.out).mono ?_
  rintro e w2 ⟨n2, a2, c2, rfl, ho2, hb2⟩
  have kr := (HBX0.out.keep hb2).1
  have kf := (HBX0.out.keep hb2).2
  have hgl := (HBX0.out.keep hb2).lt
  have HB2 : Hid (Below w.heap.size w w2) := HB0.out.trans (hb2.mono HB0.out.size)
  have HO2 := Lib.hid ho2
  have hz := HSZ.out
  clear ho2 hb2
  obtain ⟨ok, hok⟩ : ∃ ok, ok = inB N 1 16 := ⟨_, rfl⟩
  have HK := Lib.hid hok
  rw [← hok]
  clear hok
  go_wp2
  refine bodyPost_ret (v := .tuple #[.agg #[.slice a2 n2 c2], .bool ok]) (by simp [results, Try.results21, go_sem, cell_set_same _ kr]) rfl ?_
  refine HQ.out _ _ ?_
  rw [← HK.out]
  exact ⟨n2, a2, c2, rfl, (by rw [HK.out]; exact HO2.out.setBelow (by simp; omega) _ : OwnGrid _ _ _ _ _ _).mono (by omega), HB2.out.setCell (by simp) _⟩

end Go.Proofs.Ytojbaepcflkgeaa

/- Plain facts: what FnMade asks of the graphs that are made. -/
namespace Go.Proofs.Ytojbaepcflkgeaa
open Go.RowKit

/-- Colours that take turns along each edge make two sides. -/
theorem two_sides {L : List (List Int)} (hG : GraphP L) (c : Nat → Nat) (hc : ∀ u v, adjB L u v = true → (c u + c v) % 2 = 1) : soB L = true := by
  have hnear : nearB L = adjB L := (nearM_eq hG).symm
  have hwalk : ∀ {v k u : Nat}, Wk (nearB L) (allS L.length) v k u → (c u + c v + k) % 2 = 0 := by
    intro v k
    induction k with
    | zero => rintro u ⟨rfl, _⟩; omega
    | succ k ih =>
      rintro u ⟨_, x, hx, ha⟩
      have h1 := ih hx
      rw [hnear] at ha
      have h2 := hc x u ha
      omega
  have hsy := nearB_symm hG
  have hside : ∀ u, u < L.length → (sideV L u - (c u : Int) - (c (headN (nearB L) L.length u) : Int)) % 2 = 0 := by
    intro u hu
    obtain ⟨_, hr, _, _⟩ := headN_spec hsy hG.1.2 hu
    obtain ⟨a, ha⟩ := reach_at.1 (hr.symm hsy)
    have h1 := hwalk ha.1
    unfold sideV
    rw [dOf_at ha]
    omega
  refine soB_yes hG (fun u v hu hv ha he => ?_)
  have h1 := hside u hu
  have h2 := hside v hv
  have h3 := hc u v ha
  have hr : Reach (nearB L) (allS L.length) u v := ⟨1, (allS_iff _ _).2 hv, u, ⟨rfl, (allS_iff _ _).2 hu⟩, by rw [hnear]; exact ha⟩
  rw [headN_eq hsy hG.1.2 hr] at h2
  have h4 := sideV_rng L u
  have h5 := sideV_rng L v
  omega

/-- All lie in one part where all are reached from 0. -/
theorem one_part {L : List (List Int)} (hG : GraphP L) (h : ∀ u, u < L.length → 0 < u → adjB L 0 u = true) : (partsL L).length = 1 := by
  have hnear : nearB L = adjB L := (nearM_eq hG).symm
  have hsy := nearB_symm hG
  have hz := hG.1
  have hhead : ∀ u, u < L.length → headN (nearB L) L.length u = 0 := by
    have h0 : headN (nearB L) L.length 0 = 0 := by have := (headN_spec hsy hz.2 (v := 0) (by omega)).1; omega
    intro u hu
    by_cases e : u = 0
    · rw [e]; exact h0
    · rw [headN_eq hsy hz.2 (v := 0) (u := u) ⟨1, (allS_iff _ _).2 hu, 0, ⟨rfl, (allS_iff _ _).2 (by omega)⟩, by rw [hnear]; exact h u hu (by omega)⟩, h0]
  rw [partsL_len hG]
  unfold hdM headsTo
  have key : ∀ k, k ≤ L.length → 1 ≤ k → (List.range k).filter (fun v => headN (nearB L) L.length v == v) = [0] := by
    intro k
    induction k with
    | zero => intro _ h; omega
    | succ k ih =>
      intro hk _
      rw [List.range_succ, List.filter_append]
      by_cases e : k = 0
      · subst e
        simp [hhead 0 (by omega)]
      · rw [ih (by omega) (by omega)]
        have : (headN (nearB L) L.length k == k) = false := by rw [hhead k (by omega), beq_eq_false_iff_ne]; omega
        simp [this]
  rw [key _ (Nat.le_refl _) hz.1]; rfl

def pathG (n : Nat) : List (List Int) := adjL n (symA n pathR)
def loopG (n : Nat) : List (List Int) := adjL n (symA n (loopR n))
def fullG (n : Nat) : List (List Int) := adjL n (symA n fullR)
def sideG (a b : Nat) : List (List Int) := adjL (a + b) (symA (a + b) (sidedR a))
def gridG (a b : Nat) : List (List Int) := adjL (a * b) (symA (a * b) (gridR b))
def wheelG (n : Nat) : List (List Int) := adjL (n + 1) (symA (n + 1) (wheelR n))
def starG (n : Nat) : List (List Int) := adjL (n + 1) (symA (n + 1) starR)

theorem five {p : Nat → Prop} (h3 : p 3) (h4 : p 4) (h5 : p 5) (h6 : p 6) (h7 : p 7) {n : Nat} (h1 : 3 ≤ n) (h2 : n ≤ 7) : p n := by
  have : n = 3 ∨ n = 4 ∨ n = 5 ∨ n = 6 ∨ n = 7 := by omega
  rcases this with rfl | rfl | rfl | rfl | rfl
  · exact h3
  · exact h4
  · exact h5
  · exact h6
  · exact h7
theorem four {p : Nat → Prop} (h1 : p 1) (h2 : p 2) (h3 : p 3) (h4 : p 4) {n : Nat} (hn1 : 1 ≤ n) (hn : n ≤ 4) : p n := by
  have : n = 1 ∨ n = 2 ∨ n = 3 ∨ n = 4 := by omega
  rcases this with rfl | rfl | rfl | rfl
  · exact h1
  · exact h2
  · exact h3
  · exact h4
theorem many_path {n : Nat} (h1 : 3 ≤ n) (h2 : n ≤ 7) : manyN (pathG n) = (n : Int) - 1 := by
  refine five (p := fun n => manyN (pathG n) = (n : Int) - 1) ?_ ?_ ?_ ?_ ?_ h1 h2 <;> decide +kernel
theorem many_loop {n : Nat} (h1 : 3 ≤ n) (h2 : n ≤ 7) : manyN (loopG n) = (n : Int) := by
  refine five (p := fun n => manyN (loopG n) = (n : Int)) ?_ ?_ ?_ ?_ ?_ h1 h2 <;> decide +kernel
theorem many_full {n : Nat} (h1 : 3 ≤ n) (h2 : n ≤ 7) : manyN (fullG n) = (((n : Int) * ((n : Int) - 1)).tdiv 2) := by
  refine five (p := fun n => manyN (fullG n) = (((n : Int) * ((n : Int) - 1)).tdiv 2)) ?_ ?_ ?_ ?_ ?_ h1 h2 <;> decide +kernel
theorem many_wheel {n : Nat} (h1 : 3 ≤ n) (h2 : n ≤ 7) : manyN (wheelG n) = 2 * (n : Int) := by
  refine five (p := fun n => manyN (wheelG n) = 2 * (n : Int)) ?_ ?_ ?_ ?_ ?_ h1 h2 <;> decide +kernel
theorem many_star {n : Nat} (h1 : 3 ≤ n) (h2 : n ≤ 7) : manyN (starG n) = (n : Int) := by
  refine five (p := fun n => manyN (starG n) = (n : Int)) ?_ ?_ ?_ ?_ ?_ h1 h2 <;> decide +kernel
theorem many_side {a b : Nat} (ha1 : 1 ≤ a) (ha : a ≤ 4) (hb1 : 1 ≤ b) (hb : b ≤ 4) : manyN (sideG a b) = (a : Int) * (b : Int) := by
  refine four (p := fun a => manyN (sideG a b) = (a : Int) * (b : Int)) ?_ ?_ ?_ ?_ ha1 ha
  · exact four (p := fun b => manyN (sideG 1 b) = ((1 : Nat) : Int) * (b : Int)) (by decide +kernel) (by decide +kernel) (by decide +kernel) (by decide +kernel) hb1 hb
  · exact four (p := fun b => manyN (sideG 2 b) = ((2 : Nat) : Int) * (b : Int)) (by decide +kernel) (by decide +kernel) (by decide +kernel) (by decide +kernel) hb1 hb
  · exact four (p := fun b => manyN (sideG 3 b) = ((3 : Nat) : Int) * (b : Int)) (by decide +kernel) (by decide +kernel) (by decide +kernel) (by decide +kernel) hb1 hb
  · exact four (p := fun b => manyN (sideG 4 b) = ((4 : Nat) : Int) * (b : Int)) (by decide +kernel) (by decide +kernel) (by decide +kernel) (by decide +kernel) hb1 hb
theorem many_grid {a b : Nat} (ha1 : 1 ≤ a) (ha : a ≤ 4) (hb1 : 1 ≤ b) (hb : b ≤ 4) : manyN (gridG a b) = (a : Int) * ((b : Int) - 1) + (b : Int) * ((a : Int) - 1) := by
  refine four (p := fun a => manyN (gridG a b) = (a : Int) * ((b : Int) - 1) + (b : Int) * ((a : Int) - 1)) ?_ ?_ ?_ ?_ ha1 ha
  · exact four (p := fun b => manyN (gridG 1 b) = ((1 : Nat) : Int) * ((b : Int) - 1) + (b : Int) * (((1 : Nat) : Int) - 1)) (by decide +kernel) (by decide +kernel) (by decide +kernel) (by decide +kernel) hb1 hb
  · exact four (p := fun b => manyN (gridG 2 b) = ((2 : Nat) : Int) * ((b : Int) - 1) + (b : Int) * (((2 : Nat) : Int) - 1)) (by decide +kernel) (by decide +kernel) (by decide +kernel) (by decide +kernel) hb1 hb
  · exact four (p := fun b => manyN (gridG 3 b) = ((3 : Nat) : Int) * ((b : Int) - 1) + (b : Int) * (((3 : Nat) : Int) - 1)) (by decide +kernel) (by decide +kernel) (by decide +kernel) (by decide +kernel) hb1 hb
  · exact four (p := fun b => manyN (gridG 4 b) = ((4 : Nat) : Int) * ((b : Int) - 1) + (b : Int) * (((4 : Nat) : Int) - 1)) (by decide +kernel) (by decide +kernel) (by decide +kernel) (by decide +kernel) hb1 hb
theorem sym_loop {n : Nat} (h1 : 3 ≤ n) (h2 : n ≤ 7) : symN (loopG n) = 2 * (n : Int) := by
  refine five (p := fun n => symN (loopG n) = 2 * (n : Int)) ?_ ?_ ?_ ?_ ?_ h1 h2 <;> decide +kernel
theorem sym_path {n : Nat} (h1 : 3 ≤ n) (h2 : n ≤ 7) : symN (pathG n) = 2 := by
  refine five (p := fun n => symN (pathG n) = 2) ?_ ?_ ?_ ?_ ?_ h1 h2 <;> decide +kernel
theorem cut_wheel {n : Nat} (h1 : 3 ≤ n) (h2 : n ≤ 7) : cutB (wheelG n) (n : Int) = true ∧ cutL (wheelG n) (n : Int) = loopG n := by
  refine five (p := fun n => cutB (wheelG n) (n : Int) = true ∧ cutL (wheelG n) (n : Int) = loopG n) ?_ ?_ ?_ ?_ ?_ h1 h2 <;> decide +kernel
theorem star_graph {n : Nat} (h2 : n ≤ 15) : GraphP (starG n) := symA_graph _ (by omega) (by omega)
theorem star_parts {n : Nat} (h2 : n ≤ 15) : (partsL (starG n)).length = 1 := by
  have hG := star_graph h2
  refine one_part hG (fun u hu h0 => ?_)
  have hl : (starG n).length = n + 1 := adjL_len _ _
  rw [hl] at hu
  unfold starG at hG ⊢
  rw [adjB_adjL hG (by omega) (by omega), symA_lt _ h0 hu]
  rfl
theorem grid_graph {a b : Nat} (h1 : 1 ≤ a * b) (h2 : a * b ≤ 16) : GraphP (gridG a b) := symA_graph _ h1 h2
theorem grid_two {a b : Nat} (hb : 1 ≤ b) (h1 : 1 ≤ a * b) (h2 : a * b ≤ 16) : soB (gridG a b) = true := by
  have hG := grid_graph h1 h2
  have hl : (gridG a b).length = a * b := adjL_len _ _
  have key : ∀ u v, gridR b u v = true → (u / b + u % b + (v / b + v % b)) % 2 = 1 := by
    intro u v h
    unfold gridR at h
    rw [Bool.or_eq_true, Bool.and_eq_true, decide_eq_true_iff, decide_eq_true_iff, Bool.not_eq_true', decide_eq_false_iff_not] at h
    rcases h with h | ⟨h, h3⟩
    · subst h
      rw [Nat.add_div_right u hb, Nat.add_mod_right]
      omega
    · subst h
      have e1 := Nat.div_add_mod u b
      have e2 := Nat.div_add_mod (u + 1) b
      have m1 := Nat.mod_lt u hb
      have m2 := Nat.mod_lt (u + 1) hb
      have hd : (u + 1) / b = u / b := by
        rw [Nat.succ_div]
        rw [if_neg (fun hd => h3 (Nat.mod_eq_zero_of_dvd hd)), Nat.add_zero]
      rw [hd] at e2 ⊢
      generalize b * (u / b) = q at *
      omega
  refine two_sides hG (fun u => u / b + u % b) (fun u v ha => ?_)
  have hr := adjB_range hG ha
  rw [hl] at hr
  unfold gridG at hG ha
  rw [adjB_adjL hG hr.1 (by omega)] at ha
  unfold symA at ha
  by_cases e : u < v
  · rw [if_pos e, Bool.and_eq_true] at ha
    exact key u v ha.2
  · by_cases e2 : v < u
    · rw [if_neg e, if_pos e2, Bool.and_eq_true] at ha
      have := key v u ha.2
      omega
    · rw [if_neg e, if_neg e2] at ha
      cases ha

end Go.Proofs.Ytojbaepcflkgeaa

/- The walk of FnMade. Written by program (tools/gen/madelaw.py). -/
namespace Go.Proofs.Ytojbaepcflkgeaa
open Go.RowKit

theorem gi_one {n lo hi : Int} (h1 : lo ≤ n) (h2 : n ≤ hi) : inB n lo hi = true := inB_iff.2 ⟨h1, h2⟩
theorem same_self2 {L : List (List Int)} (h : GraphP L) : sameB L L = true := by unfold sameB; rw [decide_eq_true h, decide_eq_true rfl]; rfl
theorem own_len {w : World} {B : Nat} {a : Option Addr} {n c : Nat} {L : List (List Int)} (h : OwnGrid 2 35 w B (.slice a n c) L) : n = L.length := by
  obtain ⟨a', c', e⟩ := h.grid.slice
  simp only [Value.slice.injEq] at e
  exact e.2.1

set_option maxHeartbeats 16000000 in
set_option maxRecDepth 100000 in
theorem lawMade (a0 : Option Addr) (n0 c0 : Nat) (w : World) (hb : n0 ≤ 4096 → BytesAt w w.heap.size (.slice a0 n0 c0) n0) :
    Calls Try.prog 3 #[.slice a0 n0 c0] w fun e w' => e = .returned (.bool true) ∧ Below w.heap.size w w' := by
  have HBY := Lib.hid hb
  clear hb
  go_enter Try.func3, Try.ntmps3
  go_wp2_with fail
  refine (big_any _ _ _ _).mono ?_
  rintro e w' ⟨rfl, rfl⟩
  by_cases hbig : (4096 : Int) < (n0 : Int)
  · rw [decide_eq_true hbig]
    go_wp2
    go_ret
    exact ⟨rfl, Below.refl _ _⟩
  rw [decide_eq_false hbig]
  have HBZ : Hid (BytesAt w w.heap.size (.slice a0 n0 c0) n0) := HBY.out (by omega)
  clear HBY hbig
  go_wp2_with fail
  refine (roll_any _ n0 _ _ HBZ.out).mono ?_
  rintro e w1 ⟨rfl, hd1, hb1⟩
  have HD1 := Lib.hid hd1
  have HB1 := Lib.hid hb1
  have HY1 := Lib.hid (HBZ.out.keepB hb1 (Nat.le_refl _))
  clear hd1 hb1
  go_wp2_with fail
  refine (below_any w.heap.size n0 _ 5 _ HD1.out HY1.out (by omega) (by unfold I64; omega)).mono ?_
  rintro e w2 ⟨y1, rfl, hy, hd, ho⟩
  have hy2 := hy.2 (by omega)
  obtain ⟨n, hn⟩ : ∃ n : Nat, 3 + y1 = (n : Int) := ⟨(3 + y1).toNat, by omega⟩
  have Hn1 : Hid (3 ≤ n) := by show _ ≤ _; omega
  have Hn2 : Hid (n ≤ 7) := by show _ ≤ _; omega
  have HD2 := Lib.hid hd
  have HY2 := Lib.hid (ho.bytes HY1.out)
  have HB2 : Hid (Below w.heap.size w w2) := HB1.out.trans ho.below
  clear hy hd ho
  go_wp2_with fail
  refine (below_any w.heap.size n0 _ 4 _ HD2.out HY2.out (by omega) (by unfold I64; omega)).mono ?_
  rintro e w3 ⟨y2, rfl, hy, hd, ho⟩
  have hy2 := hy.2 (by omega)
  obtain ⟨a, ha⟩ : ∃ a : Nat, 1 + y2 = (a : Int) := ⟨(1 + y2).toNat, by omega⟩
  have Ha1 : Hid (1 ≤ a) := by show _ ≤ _; omega
  have Ha2 : Hid (a ≤ 4) := by show _ ≤ _; omega
  have HD3 := Lib.hid hd
  have HY3 := Lib.hid (ho.bytes HY2.out)
  have HB3 : Hid (Below w.heap.size w w3) := HB2.out.trans ho.below
  clear hy hd ho
  go_wp2_with fail
  refine (below_any w.heap.size n0 _ 4 _ HD3.out HY3.out (by omega) (by unfold I64; omega)).mono ?_
  rintro e w4 ⟨y3, rfl, hy, hd, ho⟩
  have hy2 := hy.2 (by omega)
  obtain ⟨b, hb⟩ : ∃ b : Nat, 1 + y3 = (b : Int) := ⟨(1 + y3).toNat, by omega⟩
  have Hb1 : Hid (1 ≤ b) := by show _ ≤ _; omega
  have Hb2 : Hid (b ≤ 4) := by show _ ≤ _; omega
  have HD4 := Lib.hid hd
  have HY4 := Lib.hid (ho.bytes HY3.out)
  have HB4 : Hid (Below w.heap.size w w4) := HB3.out.trans ho.below
  clear hy hd ho
  have hn1 := Hn1.out
  have hn2 := Hn2.out
  have ha1 := Ha1.out
  have ha2 := Ha2.out
  have hb1 := Hb1.out
  have hb2 := Hb2.out
  have hab1 : 1 ≤ a * b := Nat.mul_pos ha1 hb1
  have hab2 : a * b ≤ 4 * 4 := Nat.mul_le_mul ha2 hb2
  have cP : ∀ W, Calls Try.prog 17 #[.int .i64 (n : Int)] W (GaveGB W (pathG n) true) := fun W => by have h := implPathGraph_any (n : Int) W; rwa [show inB (n : Int) 1 16 = true from gi_one (by omega) (by omega), genL_yes, Int.toNat_natCast] at h
  have cO : ∀ W, Calls Try.prog 18 #[.int .i64 (n : Int)] W (GaveGB W (loopG n) true) := fun W => by have h := implLoopGraph_any (n : Int) W; rwa [show inB (n : Int) 3 16 = true from gi_one (by omega) (by omega), genL_yes, Int.toNat_natCast] at h
  have cF : ∀ W, Calls Try.prog 19 #[.int .i64 (n : Int)] W (GaveGB W (fullG n) true) := fun W => by have h := implFullGraph_any (n : Int) W; rwa [show inB (n : Int) 1 16 = true from gi_one (by omega) (by omega), genL_yes, Int.toNat_natCast] at h
  have cT : ∀ W, Calls Try.prog 20 #[.int .i64 (a : Int), .int .i64 (b : Int)] W (GaveGB W (sideG a b) true) := fun W => by have h := implTwoSided_any (a : Int) (b : Int) W; rwa [show sidedB (a : Int) (b : Int) = true from by unfold sidedB; rw [gi_one (by omega) (by omega), gi_one (by omega) (by omega), Bool.true_and, Bool.true_and, decide_eq_true_iff]; omega, genL_yes, Int.toNat_natCast, show ((a : Int) + (b : Int)).toNat = a + b from by omega] at h
  have cR : ∀ W, Calls Try.prog 21 #[.int .i64 (a : Int), .int .i64 (b : Int)] W (GaveGB W (gridG a b) true) := fun W => by have h := implGridGraph_any (a : Int) (b : Int) W; rwa [show gridB (a : Int) (b : Int) = true from by unfold gridB; rw [gi_one (by omega) (by omega), gi_one (by omega) (by omega), Bool.true_and, Bool.true_and, decide_eq_true_iff, ← Int.natCast_mul]; omega, genL_yes, Int.toNat_natCast, show ((a : Int) * (b : Int)).toNat = a * b from by rw [← Int.natCast_mul, Int.toNat_natCast]] at h
  have cH : ∀ W, Calls Try.prog 22 #[.int .i64 (n : Int)] W (GaveGB W (wheelG n) true) := fun W => by have h := implWheelGraph_any (n : Int) W; rwa [show inB (n : Int) 3 15 = true from gi_one (by omega) (by omega), genL_yes, Int.toNat_natCast] at h
  have cX : ∀ W, Calls Try.prog 23 #[.int .i64 (n : Int)] W (GaveGB W (starG n) true) := fun W => by have h := implStarGraph_any (n : Int) W; rwa [show inB (n : Int) 0 15 = true from gi_one (by omega) (by omega), genL_yes, Int.toNat_natCast] at h
  have hP1 := many_path hn1 hn2
  have hO1 := many_loop hn1 hn2
  have hF1 := many_full hn1 hn2
  have hT1 := many_side ha1 ha2 hb1 hb2
  have hR1 := many_grid ha1 ha2 hb1 hb2
  have hH1 := many_wheel hn1 hn2
  have hX1 := many_star hn1 hn2
  have sO := sym_loop hn1 hn2
  have sP := sym_path hn1 hn2
  have hcw := cut_wheel hn1 hn2
  have hst := star_parts (n := n) (by omega)
  have hgt := grid_two (a := a) hb1 hab1 (by omega)
  have hsl : sameB (loopG n) (loopG n) = true := same_self2 (symA_graph _ (by omega) (by omega))
  obtain ⟨q, hq⟩ : ∃ q : Int, (n : Int) - 1 = q := ⟨_, rfl⟩
  obtain ⟨f, hf⟩ : ∃ f : Int, (n : Int) * q = f := ⟨_, rfl⟩
  have hf42 : 0 ≤ f ∧ f ≤ 42 := by
    have h : n = 3 ∨ n = 4 ∨ n = 5 ∨ n = 6 ∨ n = 7 := by omega
    rcases h with rfl | rfl | rfl | rfl | rfl <;> omega
  obtain ⟨t, ht⟩ : ∃ t : Int, f.tdiv 2 = t := ⟨_, rfl⟩
  have ht2 : f / 2 = t := by rw [← ht, Int.tdiv_eq_ediv_of_nonneg hf42.1]
  obtain ⟨ab, hab⟩ : ∃ ab : Int, (a : Int) * (b : Int) = ab := ⟨_, rfl⟩
  obtain ⟨bq, hbq⟩ : ∃ bq : Int, (b : Int) - 1 = bq := ⟨_, rfl⟩
  obtain ⟨aq, haq⟩ : ∃ aq : Int, (a : Int) - 1 = aq := ⟨_, rfl⟩
  obtain ⟨g1, hg1⟩ : ∃ g1 : Int, (a : Int) * bq = g1 := ⟨_, rfl⟩
  obtain ⟨g2, hg2⟩ : ∃ g2 : Int, (b : Int) * aq = g2 := ⟨_, rfl⟩
  have hbd : 0 ≤ ab ∧ ab ≤ 16 ∧ 0 ≤ g1 ∧ g1 ≤ 16 ∧ 0 ≤ g2 ∧ g2 ≤ 16 := by
    have h : a = 1 ∨ a = 2 ∨ a = 3 ∨ a = 4 := by omega
    have h2 : b = 1 ∨ b = 2 ∨ b = 3 ∨ b = 4 := by omega
    rcases h with rfl | rfl | rfl | rfl <;> rcases h2 with rfl | rfl | rfl | rfl <;> omega
  obtain ⟨hf0, hf4⟩ := hf42
  obtain ⟨z1, z2, z3, z4, z5, z6⟩ := hbd
  obtain ⟨tw, htw⟩ : ∃ tw : Int, 2 * (n : Int) = tw := ⟨_, rfl⟩
  obtain ⟨gg, hgg⟩ : ∃ gg : Int, g1 + g2 = gg := ⟨_, rfl⟩
  rw [hq] at hP1 hF1
  rw [hf, ht] at hF1
  rw [hab] at hT1
  rw [hbq, haq, hg1, hg2, hgg] at hR1
  rw [htw] at hH1 sO
  have MP : Hid (∀ W u, GridAt W u (pathG n) → Calls Try.prog 24 #[.agg #[u]] W fun e W' => e = .returned (.int .i64 q) ∧ Below W.heap.size W W') := fun W u h => by have hh := specManyEdges_any u (pathG n) W h; rwa [hP1] at hh
  have MO : Hid (∀ W u, GridAt W u (loopG n) → Calls Try.prog 24 #[.agg #[u]] W fun e W' => e = .returned (.int .i64 (n : Int)) ∧ Below W.heap.size W W') := fun W u h => by have hh := specManyEdges_any u (loopG n) W h; rwa [hO1] at hh
  have MF : Hid (∀ W u, GridAt W u (fullG n) → Calls Try.prog 24 #[.agg #[u]] W fun e W' => e = .returned (.int .i64 t) ∧ Below W.heap.size W W') := fun W u h => by have hh := specManyEdges_any u (fullG n) W h; rwa [hF1] at hh
  have MT : Hid (∀ W u, GridAt W u (sideG a b) → Calls Try.prog 24 #[.agg #[u]] W fun e W' => e = .returned (.int .i64 ab) ∧ Below W.heap.size W W') := fun W u h => by have hh := specManyEdges_any u (sideG a b) W h; rwa [hT1] at hh
  have MR : Hid (∀ W u, GridAt W u (gridG a b) → Calls Try.prog 24 #[.agg #[u]] W fun e W' => e = .returned (.int .i64 gg) ∧ Below W.heap.size W W') := fun W u h => by have hh := specManyEdges_any u (gridG a b) W h; rwa [hR1] at hh
  have MH : Hid (∀ W u, GridAt W u (wheelG n) → Calls Try.prog 24 #[.agg #[u]] W fun e W' => e = .returned (.int .i64 tw) ∧ Below W.heap.size W W') := fun W u h => by have hh := specManyEdges_any u (wheelG n) W h; rwa [hH1] at hh
  have MX : Hid (∀ W u, GridAt W u (starG n) → Calls Try.prog 24 #[.agg #[u]] W fun e W' => e = .returned (.int .i64 (n : Int)) ∧ Below W.heap.size W W') := fun W u h => by have hh := specManyEdges_any u (starG n) W h; rwa [hX1] at hh
  have YO : Hid (∀ W u, GridAt W u (loopG n) → Calls Try.prog 27 #[.agg #[u]] W fun e W' => e = .returned (.int .i64 tw) ∧ Below W.heap.size W W') := fun W u h => by have hh := implSymmetries_any u (loopG n) W h; rwa [sO] at hh
  have YP : Hid (∀ W u, GridAt W u (pathG n) → Calls Try.prog 27 #[.agg #[u]] W fun e W' => e = .returned (.int .i64 2) ∧ Below W.heap.size W W') := fun W u h => by have hh := implSymmetries_any u (pathG n) W h; rwa [sP] at hh
  have YC : Hid (∀ W u, GridAt W u (wheelG n) → Calls Try.prog 26 #[.agg #[u], .int .i64 (n : Int)] W (GaveGB W (loopG n) true)) := fun W u h => by have hh := specCutVertex_any u (wheelG n) (n : Int) W h (by unfold I64; omega); rwa [hcw.1, hcw.2] at hh
  have YS : Hid (∀ W u, GridAt W u (gridG a b) → Calls Try.prog 25 #[.agg #[u]] W (GaveRB W (soL (gridG a b)) true)) := fun W u h => by have hh := specSidesOf_any u (gridG a b) W h; rwa [hgt] at hh
  have YG : Hid (∀ W u v, GridAt W u (loopG n) → GridAt W v (loopG n) → Calls Try.prog 28 #[.agg #[u], .agg #[v]] W fun e W' => e = .returned (.bool true) ∧ Below W.heap.size W W') := fun W u v h h' => by have hh := specSameGraph_any u v (loopG n) (loopG n) W h h'; rwa [hsl] at hh
  have YT : Hid (∀ W u, GridAt W u (starG n) → Calls Try.prog 29 #[.agg #[u]] W fun e W' => ∃ a c, e = .returned (.slice a 1 c) ∧ Below W.heap.size W W') := fun W u h => (specPartsOf_any u (starG n) W h).mono (fun e W' ⟨n9, a9, c9, h1, h2, h3⟩ => ⟨a9, c9, by rw [h1, own_len h2, hst], h3⟩)
  have CP := Lib.hid cP
  have CO := Lib.hid cO
  have CF := Lib.hid cF
  have CT := Lib.hid cT
  have CR := Lib.hid cR
  have CH := Lib.hid cH
  have CX := Lib.hid cX
  clear cP cO cF cT cR cH cX hP1 hO1 hF1 hT1 hR1 hH1 hX1 sO sP hcw hst hgt hsl hab1 hab2 ha1 ha2 hb1 hb2 hn1 hn2
  obtain ⟨LP, hLP⟩ : ∃ L, pathG n = L := ⟨_, rfl⟩
  obtain ⟨LO, hLO⟩ : ∃ L, loopG n = L := ⟨_, rfl⟩
  obtain ⟨LF, hLF⟩ : ∃ L, fullG n = L := ⟨_, rfl⟩
  obtain ⟨LT, hLT⟩ : ∃ L, sideG a b = L := ⟨_, rfl⟩
  obtain ⟨LR, hLR⟩ : ∃ L, gridG a b = L := ⟨_, rfl⟩
  obtain ⟨LH, hLH⟩ : ∃ L, wheelG n = L := ⟨_, rfl⟩
  obtain ⟨LX, hLX⟩ : ∃ L, starG n = L := ⟨_, rfl⟩
  rw [hLP] at CP MP YP
  rw [hLO] at CO MO YO YC YG
  rw [hLF] at CF MF
  rw [hLT] at CT MT
  rw [hLR] at CR MR YS
  rw [hLH] at CH MH YC
  rw [hLX] at CX MX YT
  clear hLP hLO hLF hLT hLR hLH hLX
  go_wp2_with fail
  refine (CP.out _).mono ?_
  rintro e xP ⟨mP, aP, cP, rfl, ho, hb⟩
  have hst : Below xP.heap.size xP (xP.alloc (.cells #[.slice aP mP cP] 30)) := (Below.refl _ _).alloc (Nat.le_refl _) _
  have hnew : Below w4.heap.size w4 (xP.alloc (.cells #[.slice aP mP cP] 30)) := hb.alloc hb.size _
  have gP := ho.grid.keep hst
  have kP := (BoxAt.new xP (.slice aP mP cP) 30).1
  clear ho hb hst
  go_wp2_with fail
  generalize hWW : xP.alloc (.cells #[.slice aP mP cP] 30) = wP at hnew gP kP ⊢
  clear hWW
  have AP : Hid (∀ W, Below wP.heap.size wP W → W.cell? ⟨xP.heap.size, 0, none⟩ = some (.slice aP mP cP)) := fun W h => cell_keep h kP
  have BP : Hid (∀ W, Below wP.heap.size wP W → GridAt W (.slice aP mP cP) LP) := fun W h => gP.keep h
  have HB1_ : Hid (Below w.heap.size w wP) := HB4.out.trans (hnew.mono HB4.out.size)
  clear hnew gP kP
  have NP1 : Hid (Below wP.heap.size wP wP) := Below.refl _ _
  go_wp2_with fail
  refine (CO.out _).mono ?_
  rintro e xO ⟨mO, aO, cO, rfl, ho, hb⟩
  have hst : Below xO.heap.size xO (xO.alloc (.cells #[.slice aO mO cO] 30)) := (Below.refl _ _).alloc (Nat.le_refl _) _
  have hnew : Below wP.heap.size wP (xO.alloc (.cells #[.slice aO mO cO] 30)) := hb.alloc hb.size _
  have gO := ho.grid.keep hst
  have kO := (BoxAt.new xO (.slice aO mO cO) 30).1
  clear ho hb hst
  go_wp2_with fail
  generalize hWW : xO.alloc (.cells #[.slice aO mO cO] 30) = wO at hnew gO kO ⊢
  clear hWW
  have AO : Hid (∀ W, Below wO.heap.size wO W → W.cell? ⟨xO.heap.size, 0, none⟩ = some (.slice aO mO cO)) := fun W h => cell_keep h kO
  have BO : Hid (∀ W, Below wO.heap.size wO W → GridAt W (.slice aO mO cO) LO) := fun W h => gO.keep h
  have HB2_ : Hid (Below w.heap.size w wO) := HB1_.out.trans (hnew.mono HB1_.out.size)
  have NP2 : Hid (Below wP.heap.size wP wO) := NP1.out.trans (hnew.mono NP1.out.size)
  clear NP1
  clear hnew gO kO
  have NO2 : Hid (Below wO.heap.size wO wO) := Below.refl _ _
  go_wp2_with fail
  refine (CF.out _).mono ?_
  rintro e xF ⟨mF, aF, cF, rfl, ho, hb⟩
  have hst : Below xF.heap.size xF (xF.alloc (.cells #[.slice aF mF cF] 30)) := (Below.refl _ _).alloc (Nat.le_refl _) _
  have hnew : Below wO.heap.size wO (xF.alloc (.cells #[.slice aF mF cF] 30)) := hb.alloc hb.size _
  have gF := ho.grid.keep hst
  have kF := (BoxAt.new xF (.slice aF mF cF) 30).1
  clear ho hb hst
  go_wp2_with fail
  generalize hWW : xF.alloc (.cells #[.slice aF mF cF] 30) = wF at hnew gF kF ⊢
  clear hWW
  have AF : Hid (∀ W, Below wF.heap.size wF W → W.cell? ⟨xF.heap.size, 0, none⟩ = some (.slice aF mF cF)) := fun W h => cell_keep h kF
  have BF : Hid (∀ W, Below wF.heap.size wF W → GridAt W (.slice aF mF cF) LF) := fun W h => gF.keep h
  have HB3_ : Hid (Below w.heap.size w wF) := HB2_.out.trans (hnew.mono HB2_.out.size)
  have NP3 : Hid (Below wP.heap.size wP wF) := NP2.out.trans (hnew.mono NP2.out.size)
  have NO3 : Hid (Below wO.heap.size wO wF) := NO2.out.trans (hnew.mono NO2.out.size)
  clear NP2 NO2
  clear hnew gF kF
  have NF3 : Hid (Below wF.heap.size wF wF) := Below.refl _ _
  go_wp2_with fail
  refine (CT.out _).mono ?_
  rintro e xT ⟨mT, aT, cT, rfl, ho, hb⟩
  have hst : Below xT.heap.size xT (xT.alloc (.cells #[.slice aT mT cT] 30)) := (Below.refl _ _).alloc (Nat.le_refl _) _
  have hnew : Below wF.heap.size wF (xT.alloc (.cells #[.slice aT mT cT] 30)) := hb.alloc hb.size _
  have gT := ho.grid.keep hst
  have kT := (BoxAt.new xT (.slice aT mT cT) 30).1
  clear ho hb hst
  go_wp2_with fail
  generalize hWW : xT.alloc (.cells #[.slice aT mT cT] 30) = wT at hnew gT kT ⊢
  clear hWW
  have AT : Hid (∀ W, Below wT.heap.size wT W → W.cell? ⟨xT.heap.size, 0, none⟩ = some (.slice aT mT cT)) := fun W h => cell_keep h kT
  have BT : Hid (∀ W, Below wT.heap.size wT W → GridAt W (.slice aT mT cT) LT) := fun W h => gT.keep h
  have HB4_ : Hid (Below w.heap.size w wT) := HB3_.out.trans (hnew.mono HB3_.out.size)
  have NP4 : Hid (Below wP.heap.size wP wT) := NP3.out.trans (hnew.mono NP3.out.size)
  have NO4 : Hid (Below wO.heap.size wO wT) := NO3.out.trans (hnew.mono NO3.out.size)
  have NF4 : Hid (Below wF.heap.size wF wT) := NF3.out.trans (hnew.mono NF3.out.size)
  clear NP3 NO3 NF3
  clear hnew gT kT
  have NT4 : Hid (Below wT.heap.size wT wT) := Below.refl _ _
  go_wp2_with fail
  refine (CR.out _).mono ?_
  rintro e xR ⟨mR, aR, cR, rfl, ho, hb⟩
  have hst : Below xR.heap.size xR (xR.alloc (.cells #[.slice aR mR cR] 30)) := (Below.refl _ _).alloc (Nat.le_refl _) _
  have hnew : Below wT.heap.size wT (xR.alloc (.cells #[.slice aR mR cR] 30)) := hb.alloc hb.size _
  have gR := ho.grid.keep hst
  have kR := (BoxAt.new xR (.slice aR mR cR) 30).1
  clear ho hb hst
  go_wp2_with fail
  generalize hWW : xR.alloc (.cells #[.slice aR mR cR] 30) = wR at hnew gR kR ⊢
  clear hWW
  have AR : Hid (∀ W, Below wR.heap.size wR W → W.cell? ⟨xR.heap.size, 0, none⟩ = some (.slice aR mR cR)) := fun W h => cell_keep h kR
  have BR : Hid (∀ W, Below wR.heap.size wR W → GridAt W (.slice aR mR cR) LR) := fun W h => gR.keep h
  have HB5_ : Hid (Below w.heap.size w wR) := HB4_.out.trans (hnew.mono HB4_.out.size)
  have NP5 : Hid (Below wP.heap.size wP wR) := NP4.out.trans (hnew.mono NP4.out.size)
  have NO5 : Hid (Below wO.heap.size wO wR) := NO4.out.trans (hnew.mono NO4.out.size)
  have NF5 : Hid (Below wF.heap.size wF wR) := NF4.out.trans (hnew.mono NF4.out.size)
  have NT5 : Hid (Below wT.heap.size wT wR) := NT4.out.trans (hnew.mono NT4.out.size)
  clear NP4 NO4 NF4 NT4
  clear hnew gR kR
  have NR5 : Hid (Below wR.heap.size wR wR) := Below.refl _ _
  go_wp2_with fail
  refine (CH.out _).mono ?_
  rintro e xH ⟨mH, aH, cH, rfl, ho, hb⟩
  have hst : Below xH.heap.size xH (xH.alloc (.cells #[.slice aH mH cH] 30)) := (Below.refl _ _).alloc (Nat.le_refl _) _
  have hnew : Below wR.heap.size wR (xH.alloc (.cells #[.slice aH mH cH] 30)) := hb.alloc hb.size _
  have gH := ho.grid.keep hst
  have kH := (BoxAt.new xH (.slice aH mH cH) 30).1
  clear ho hb hst
  go_wp2_with fail
  generalize hWW : xH.alloc (.cells #[.slice aH mH cH] 30) = wH at hnew gH kH ⊢
  clear hWW
  have AH : Hid (∀ W, Below wH.heap.size wH W → W.cell? ⟨xH.heap.size, 0, none⟩ = some (.slice aH mH cH)) := fun W h => cell_keep h kH
  have BH : Hid (∀ W, Below wH.heap.size wH W → GridAt W (.slice aH mH cH) LH) := fun W h => gH.keep h
  have HB6_ : Hid (Below w.heap.size w wH) := HB5_.out.trans (hnew.mono HB5_.out.size)
  have NP6 : Hid (Below wP.heap.size wP wH) := NP5.out.trans (hnew.mono NP5.out.size)
  have NO6 : Hid (Below wO.heap.size wO wH) := NO5.out.trans (hnew.mono NO5.out.size)
  have NF6 : Hid (Below wF.heap.size wF wH) := NF5.out.trans (hnew.mono NF5.out.size)
  have NT6 : Hid (Below wT.heap.size wT wH) := NT5.out.trans (hnew.mono NT5.out.size)
  have NR6 : Hid (Below wR.heap.size wR wH) := NR5.out.trans (hnew.mono NR5.out.size)
  clear NP5 NO5 NF5 NT5 NR5
  clear hnew gH kH
  have NH6 : Hid (Below wH.heap.size wH wH) := Below.refl _ _
  go_wp2_with fail
  refine (CX.out _).mono ?_
  rintro e xX ⟨mX, aX, cX, rfl, ho, hb⟩
  have hst : Below xX.heap.size xX (xX.alloc (.cells #[.slice aX mX cX] 30)) := (Below.refl _ _).alloc (Nat.le_refl _) _
  have hnew : Below wH.heap.size wH (xX.alloc (.cells #[.slice aX mX cX] 30)) := hb.alloc hb.size _
  have gX := ho.grid.keep hst
  have kX := (BoxAt.new xX (.slice aX mX cX) 30).1
  have kk := cell_keep hnew (AP.out _ NP6.out)
  clear ho hb hst
  go_wp2_with fail
  generalize hWW : xX.alloc (.cells #[.slice aX mX cX] 30) = wX at hnew gX kX kk ⊢
  clear hWW
  have AX : Hid (∀ W, Below wX.heap.size wX W → W.cell? ⟨xX.heap.size, 0, none⟩ = some (.slice aX mX cX)) := fun W h => cell_keep h kX
  have BX : Hid (∀ W, Below wX.heap.size wX W → GridAt W (.slice aX mX cX) LX) := fun W h => gX.keep h
  have HB7_ : Hid (Below w.heap.size w wX) := HB6_.out.trans (hnew.mono HB6_.out.size)
  have NP7 : Hid (Below wP.heap.size wP wX) := NP6.out.trans (hnew.mono NP6.out.size)
  have NO7 : Hid (Below wO.heap.size wO wX) := NO6.out.trans (hnew.mono NO6.out.size)
  have NF7 : Hid (Below wF.heap.size wF wX) := NF6.out.trans (hnew.mono NF6.out.size)
  have NT7 : Hid (Below wT.heap.size wT wX) := NT6.out.trans (hnew.mono NT6.out.size)
  have NR7 : Hid (Below wR.heap.size wR wX) := NR6.out.trans (hnew.mono NR6.out.size)
  have NH7 : Hid (Below wH.heap.size wH wX) := NH6.out.trans (hnew.mono NH6.out.size)
  clear NP6 NO6 NF6 NT6 NR6 NH6
  clear hnew gX kX
  have NX7 : Hid (Below wX.heap.size wX wX) := Below.refl _ _
  have hself : ∀ x : Int, (x != x) = false := fun x => by simp
  refine (MP.out _ _ (BP.out _ NP7.out)).mono ?_
  rintro e y8w ⟨rfl, hb⟩
  have HB8_ : Hid (Below w.heap.size w y8w) := HB7_.out.trans (hb.mono HB7_.out.size)
  have NP8 : Hid (Below wP.heap.size wP y8w) := NP7.out.trans (hb.mono NP7.out.size)
  have NO8 : Hid (Below wO.heap.size wO y8w) := NO7.out.trans (hb.mono NO7.out.size)
  have NF8 : Hid (Below wF.heap.size wF y8w) := NF7.out.trans (hb.mono NF7.out.size)
  have NT8 : Hid (Below wT.heap.size wT y8w) := NT7.out.trans (hb.mono NT7.out.size)
  have NR8 : Hid (Below wR.heap.size wR y8w) := NR7.out.trans (hb.mono NR7.out.size)
  have NH8 : Hid (Below wH.heap.size wH y8w) := NH7.out.trans (hb.mono NH7.out.size)
  have NX8 : Hid (Below wX.heap.size wX y8w) := NX7.out.trans (hb.mono NX7.out.size)
  clear NP7 NO7 NF7 NT7 NR7 NH7 NX7
  clear kk hb
  have kk := AO.out _ NO8.out
  go_wp2_with fail
  refine (MO.out _ _ (BO.out _ NO8.out)).mono ?_
  rintro e y9w ⟨rfl, hb⟩
  have HB9_ : Hid (Below w.heap.size w y9w) := HB8_.out.trans (hb.mono HB8_.out.size)
  have NP9 : Hid (Below wP.heap.size wP y9w) := NP8.out.trans (hb.mono NP8.out.size)
  have NO9 : Hid (Below wO.heap.size wO y9w) := NO8.out.trans (hb.mono NO8.out.size)
  have NF9 : Hid (Below wF.heap.size wF y9w) := NF8.out.trans (hb.mono NF8.out.size)
  have NT9 : Hid (Below wT.heap.size wT y9w) := NT8.out.trans (hb.mono NT8.out.size)
  have NR9 : Hid (Below wR.heap.size wR y9w) := NR8.out.trans (hb.mono NR8.out.size)
  have NH9 : Hid (Below wH.heap.size wH y9w) := NH8.out.trans (hb.mono NH8.out.size)
  have NX9 : Hid (Below wX.heap.size wX y9w) := NX8.out.trans (hb.mono NX8.out.size)
  clear NP8 NO8 NF8 NT8 NR8 NH8 NX8
  clear kk hb
  have kk := AF.out _ NF9.out
  go_wp2_with fail
  refine (MF.out _ _ (BF.out _ NF9.out)).mono ?_
  rintro e y10w ⟨rfl, hb⟩
  have HB10_ : Hid (Below w.heap.size w y10w) := HB9_.out.trans (hb.mono HB9_.out.size)
  have NP10 : Hid (Below wP.heap.size wP y10w) := NP9.out.trans (hb.mono NP9.out.size)
  have NO10 : Hid (Below wO.heap.size wO y10w) := NO9.out.trans (hb.mono NO9.out.size)
  have NF10 : Hid (Below wF.heap.size wF y10w) := NF9.out.trans (hb.mono NF9.out.size)
  have NT10 : Hid (Below wT.heap.size wT y10w) := NT9.out.trans (hb.mono NT9.out.size)
  have NR10 : Hid (Below wR.heap.size wR y10w) := NR9.out.trans (hb.mono NR9.out.size)
  have NH10 : Hid (Below wH.heap.size wH y10w) := NH9.out.trans (hb.mono NH9.out.size)
  have NX10 : Hid (Below wX.heap.size wX y10w) := NX9.out.trans (hb.mono NX9.out.size)
  clear NP9 NO9 NF9 NT9 NR9 NH9 NX9
  clear kk hb
  have kk := AT.out _ NT10.out
  go_wp2_with fail
  refine (MT.out _ _ (BT.out _ NT10.out)).mono ?_
  rintro e y11w ⟨rfl, hb⟩
  have HB11_ : Hid (Below w.heap.size w y11w) := HB10_.out.trans (hb.mono HB10_.out.size)
  have NP11 : Hid (Below wP.heap.size wP y11w) := NP10.out.trans (hb.mono NP10.out.size)
  have NO11 : Hid (Below wO.heap.size wO y11w) := NO10.out.trans (hb.mono NO10.out.size)
  have NF11 : Hid (Below wF.heap.size wF y11w) := NF10.out.trans (hb.mono NF10.out.size)
  have NT11 : Hid (Below wT.heap.size wT y11w) := NT10.out.trans (hb.mono NT10.out.size)
  have NR11 : Hid (Below wR.heap.size wR y11w) := NR10.out.trans (hb.mono NR10.out.size)
  have NH11 : Hid (Below wH.heap.size wH y11w) := NH10.out.trans (hb.mono NH10.out.size)
  have NX11 : Hid (Below wX.heap.size wX y11w) := NX10.out.trans (hb.mono NX10.out.size)
  clear NP10 NO10 NF10 NT10 NR10 NH10 NX10
  clear kk hb
  have kk := AR.out _ NR11.out
  go_wp2_with fail
  refine (MR.out _ _ (BR.out _ NR11.out)).mono ?_
  rintro e y12w ⟨rfl, hb⟩
  have HB12_ : Hid (Below w.heap.size w y12w) := HB11_.out.trans (hb.mono HB11_.out.size)
  have NP12 : Hid (Below wP.heap.size wP y12w) := NP11.out.trans (hb.mono NP11.out.size)
  have NO12 : Hid (Below wO.heap.size wO y12w) := NO11.out.trans (hb.mono NO11.out.size)
  have NF12 : Hid (Below wF.heap.size wF y12w) := NF11.out.trans (hb.mono NF11.out.size)
  have NT12 : Hid (Below wT.heap.size wT y12w) := NT11.out.trans (hb.mono NT11.out.size)
  have NR12 : Hid (Below wR.heap.size wR y12w) := NR11.out.trans (hb.mono NR11.out.size)
  have NH12 : Hid (Below wH.heap.size wH y12w) := NH11.out.trans (hb.mono NH11.out.size)
  have NX12 : Hid (Below wX.heap.size wX y12w) := NX11.out.trans (hb.mono NX11.out.size)
  clear NP11 NO11 NF11 NT11 NR11 NH11 NX11
  clear kk hb
  have kk := AH.out _ NH12.out
  go_wp2_with fail
  refine (MH.out _ _ (BH.out _ NH12.out)).mono ?_
  rintro e y13w ⟨rfl, hb⟩
  have HB13_ : Hid (Below w.heap.size w y13w) := HB12_.out.trans (hb.mono HB12_.out.size)
  have NP13 : Hid (Below wP.heap.size wP y13w) := NP12.out.trans (hb.mono NP12.out.size)
  have NO13 : Hid (Below wO.heap.size wO y13w) := NO12.out.trans (hb.mono NO12.out.size)
  have NF13 : Hid (Below wF.heap.size wF y13w) := NF12.out.trans (hb.mono NF12.out.size)
  have NT13 : Hid (Below wT.heap.size wT y13w) := NT12.out.trans (hb.mono NT12.out.size)
  have NR13 : Hid (Below wR.heap.size wR y13w) := NR12.out.trans (hb.mono NR12.out.size)
  have NH13 : Hid (Below wH.heap.size wH y13w) := NH12.out.trans (hb.mono NH12.out.size)
  have NX13 : Hid (Below wX.heap.size wX y13w) := NX12.out.trans (hb.mono NX12.out.size)
  clear NP12 NO12 NF12 NT12 NR12 NH12 NX12
  clear kk hb
  have kk := AX.out _ NX13.out
  go_wp2_with fail
  refine (MX.out _ _ (BX.out _ NX13.out)).mono ?_
  rintro e y14w ⟨rfl, hb⟩
  have HB14_ : Hid (Below w.heap.size w y14w) := HB13_.out.trans (hb.mono HB13_.out.size)
  have NP14 : Hid (Below wP.heap.size wP y14w) := NP13.out.trans (hb.mono NP13.out.size)
  have NO14 : Hid (Below wO.heap.size wO y14w) := NO13.out.trans (hb.mono NO13.out.size)
  have NF14 : Hid (Below wF.heap.size wF y14w) := NF13.out.trans (hb.mono NF13.out.size)
  have NT14 : Hid (Below wT.heap.size wT y14w) := NT13.out.trans (hb.mono NT13.out.size)
  have NR14 : Hid (Below wR.heap.size wR y14w) := NR13.out.trans (hb.mono NR13.out.size)
  have NH14 : Hid (Below wH.heap.size wH y14w) := NH13.out.trans (hb.mono NH13.out.size)
  have NX14 : Hid (Below wX.heap.size wX y14w) := NX13.out.trans (hb.mono NX13.out.size)
  clear NP13 NO13 NF13 NT13 NR13 NH13 NX13
  clear kk hb
  have kk := AR.out _ NR14.out
  go_wp2_with fail
  refine (YS.out _ _ (BR.out _ NR14.out)).mono ?_
  rintro e y15w ⟨mS, aS, cS, rfl, ho, hb⟩
  have HB15_ : Hid (Below w.heap.size w y15w) := HB14_.out.trans (hb.mono HB14_.out.size)
  have NP15 : Hid (Below wP.heap.size wP y15w) := NP14.out.trans (hb.mono NP14.out.size)
  have NO15 : Hid (Below wO.heap.size wO y15w) := NO14.out.trans (hb.mono NO14.out.size)
  have NF15 : Hid (Below wF.heap.size wF y15w) := NF14.out.trans (hb.mono NF14.out.size)
  have NT15 : Hid (Below wT.heap.size wT y15w) := NT14.out.trans (hb.mono NT14.out.size)
  have NR15 : Hid (Below wR.heap.size wR y15w) := NR14.out.trans (hb.mono NR14.out.size)
  have NH15 : Hid (Below wH.heap.size wH y15w) := NH14.out.trans (hb.mono NH14.out.size)
  have NX15 : Hid (Below wX.heap.size wX y15w) := NX14.out.trans (hb.mono NX14.out.size)
  clear NP14 NO14 NF14 NT14 NR14 NH14 NX14
  clear kk hb ho
  have kk := AH.out _ NH15.out
  go_wp2_with fail
  refine (YC.out _ _ (BH.out _ NH15.out)).mono ?_
  rintro e xC ⟨mC, aC, cC, rfl, ho, hb⟩
  have hst : Below xC.heap.size xC (xC.alloc (.cells #[.slice aC mC cC] 30)) := (Below.refl _ _).alloc (Nat.le_refl _) _
  have hnew : Below y15w.heap.size y15w (xC.alloc (.cells #[.slice aC mC cC] 30)) := hb.alloc hb.size _
  have gC := ho.grid.keep hst
  have kC := (BoxAt.new xC (.slice aC mC cC) 30).1
  have kO := cell_keep hnew (AO.out _ NO15.out)
  clear ho hb hst kk
  go_wp2_with fail
  generalize hWW : xC.alloc (.cells #[.slice aC mC cC] 30) = wC at hnew gC kC kO ⊢
  clear hWW
  have AC : Hid (∀ W, Below wC.heap.size wC W → W.cell? ⟨xC.heap.size, 0, none⟩ = some (.slice aC mC cC)) := fun W h => cell_keep h kC
  have BC : Hid (∀ W, Below wC.heap.size wC W → GridAt W (.slice aC mC cC) LO) := fun W h => gC.keep h
  have HB16_ : Hid (Below w.heap.size w wC) := HB15_.out.trans (hnew.mono HB15_.out.size)
  have NP16 : Hid (Below wP.heap.size wP wC) := NP15.out.trans (hnew.mono NP15.out.size)
  have NO16 : Hid (Below wO.heap.size wO wC) := NO15.out.trans (hnew.mono NO15.out.size)
  have NF16 : Hid (Below wF.heap.size wF wC) := NF15.out.trans (hnew.mono NF15.out.size)
  have NT16 : Hid (Below wT.heap.size wT wC) := NT15.out.trans (hnew.mono NT15.out.size)
  have NR16 : Hid (Below wR.heap.size wR wC) := NR15.out.trans (hnew.mono NR15.out.size)
  have NH16 : Hid (Below wH.heap.size wH wC) := NH15.out.trans (hnew.mono NH15.out.size)
  have NX16 : Hid (Below wX.heap.size wX wC) := NX15.out.trans (hnew.mono NX15.out.size)
  clear NP15 NO15 NF15 NT15 NR15 NH15 NX15
  clear hnew gC kC
  have NC16 : Hid (Below wC.heap.size wC wC) := Below.refl _ _
  refine (YO.out _ _ (BO.out _ NO16.out)).mono ?_
  rintro e y17w ⟨rfl, hb⟩
  have HB17_ : Hid (Below w.heap.size w y17w) := HB16_.out.trans (hb.mono HB16_.out.size)
  have NP17 : Hid (Below wP.heap.size wP y17w) := NP16.out.trans (hb.mono NP16.out.size)
  have NO17 : Hid (Below wO.heap.size wO y17w) := NO16.out.trans (hb.mono NO16.out.size)
  have NF17 : Hid (Below wF.heap.size wF y17w) := NF16.out.trans (hb.mono NF16.out.size)
  have NT17 : Hid (Below wT.heap.size wT y17w) := NT16.out.trans (hb.mono NT16.out.size)
  have NR17 : Hid (Below wR.heap.size wR y17w) := NR16.out.trans (hb.mono NR16.out.size)
  have NH17 : Hid (Below wH.heap.size wH y17w) := NH16.out.trans (hb.mono NH16.out.size)
  have NX17 : Hid (Below wX.heap.size wX y17w) := NX16.out.trans (hb.mono NX16.out.size)
  have NC17 : Hid (Below wC.heap.size wC y17w) := NC16.out.trans (hb.mono NC16.out.size)
  clear NP16 NO16 NF16 NT16 NR16 NH16 NX16 NC16
  clear hb kO
  have kk := AP.out _ NP17.out
  go_wp2_with fail
  refine (YP.out _ _ (BP.out _ NP17.out)).mono ?_
  rintro e y18w ⟨rfl, hb⟩
  have HB18_ : Hid (Below w.heap.size w y18w) := HB17_.out.trans (hb.mono HB17_.out.size)
  have NP18 : Hid (Below wP.heap.size wP y18w) := NP17.out.trans (hb.mono NP17.out.size)
  have NO18 : Hid (Below wO.heap.size wO y18w) := NO17.out.trans (hb.mono NO17.out.size)
  have NF18 : Hid (Below wF.heap.size wF y18w) := NF17.out.trans (hb.mono NF17.out.size)
  have NT18 : Hid (Below wT.heap.size wT y18w) := NT17.out.trans (hb.mono NT17.out.size)
  have NR18 : Hid (Below wR.heap.size wR y18w) := NR17.out.trans (hb.mono NR17.out.size)
  have NH18 : Hid (Below wH.heap.size wH y18w) := NH17.out.trans (hb.mono NH17.out.size)
  have NX18 : Hid (Below wX.heap.size wX y18w) := NX17.out.trans (hb.mono NX17.out.size)
  have NC18 : Hid (Below wC.heap.size wC y18w) := NC17.out.trans (hb.mono NC17.out.size)
  clear NP17 NO17 NF17 NT17 NR17 NH17 NX17 NC17
  clear kk hb
  have kk := AO.out _ NO18.out
  have kC := AC.out _ NC18.out
  go_wp2_with fail
  refine (YG.out _ _ _ (BC.out _ NC18.out) (BO.out _ NO18.out)).mono ?_
  rintro e y19w ⟨rfl, hb⟩
  have HB19_ : Hid (Below w.heap.size w y19w) := HB18_.out.trans (hb.mono HB18_.out.size)
  have NP19 : Hid (Below wP.heap.size wP y19w) := NP18.out.trans (hb.mono NP18.out.size)
  have NO19 : Hid (Below wO.heap.size wO y19w) := NO18.out.trans (hb.mono NO18.out.size)
  have NF19 : Hid (Below wF.heap.size wF y19w) := NF18.out.trans (hb.mono NF18.out.size)
  have NT19 : Hid (Below wT.heap.size wT y19w) := NT18.out.trans (hb.mono NT18.out.size)
  have NR19 : Hid (Below wR.heap.size wR y19w) := NR18.out.trans (hb.mono NR18.out.size)
  have NH19 : Hid (Below wH.heap.size wH y19w) := NH18.out.trans (hb.mono NH18.out.size)
  have NX19 : Hid (Below wX.heap.size wX y19w) := NX18.out.trans (hb.mono NX18.out.size)
  have NC19 : Hid (Below wC.heap.size wC y19w) := NC18.out.trans (hb.mono NC18.out.size)
  clear NP18 NO18 NF18 NT18 NR18 NH18 NX18 NC18
  clear hb kk kC
  have kk := AX.out _ NX19.out
  go_wp2_with fail
  refine (YT.out _ _ (BX.out _ NX19.out)).mono ?_
  rintro e y20w ⟨aT, cT, rfl, hb⟩
  have HB20_ : Hid (Below w.heap.size w y20w) := HB19_.out.trans (hb.mono HB19_.out.size)
  have NP20 : Hid (Below wP.heap.size wP y20w) := NP19.out.trans (hb.mono NP19.out.size)
  have NO20 : Hid (Below wO.heap.size wO y20w) := NO19.out.trans (hb.mono NO19.out.size)
  have NF20 : Hid (Below wF.heap.size wF y20w) := NF19.out.trans (hb.mono NF19.out.size)
  have NT20 : Hid (Below wT.heap.size wT y20w) := NT19.out.trans (hb.mono NT19.out.size)
  have NR20 : Hid (Below wR.heap.size wR y20w) := NR19.out.trans (hb.mono NR19.out.size)
  have NH20 : Hid (Below wH.heap.size wH y20w) := NH19.out.trans (hb.mono NH19.out.size)
  have NX20 : Hid (Below wX.heap.size wX y20w) := NX19.out.trans (hb.mono NX19.out.size)
  have NC20 : Hid (Below wC.heap.size wC y20w) := NC19.out.trans (hb.mono NC19.out.size)
  clear NP19 NO19 NF19 NT19 NR19 NH19 NX19 NC19
  clear kk hb
  go_wp2
  go_ret
  exact ⟨rfl, HB20_.out⟩

end Go.Proofs.Ytojbaepcflkgeaa
