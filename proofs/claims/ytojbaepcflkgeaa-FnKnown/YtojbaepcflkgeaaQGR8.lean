/- The texts GR8, GI3, joined. -/
import Derived.Test.YtojbaepcflkgeaaQGR1
import Derived.Test.YtojbaepcflkgeaaQGM3
import Derived.Test.YtojbaepcflkgeaaQGR5

/- Walks: the program's rule of dice. -/
namespace Go.Proofs.Ytojbaepcflkgeaa
open Go.RowKit

theorem rem_twice (s : Int) : Int.tmod (Int.tmod s 999999937 + 999999937) 999999937 = dst s 0 := by
  have h := rem_bounds s
  rcases rem_cases s with ⟨h1, h2⟩ | ⟨h1, h2⟩
  · rw [h2, Int.tmod_eq_emod_of_nonneg (by have := dst_ge s 0; omega)]
    have := dst_ge s 0; have := dst_lt s 0
    omega
  · rw [h2, Int.tmod_eq_emod_of_nonneg (dst_ge s 0)]
    have := dst_ge s 0; have := dst_lt s 0
    omega

set_option maxHeartbeats 800000 in
theorem diceRule1_any (k p q : Nat) (s f : Int) (w : World) (hp : w.cell? ⟨p, 0, none⟩ = some (.int .i64 (dst s k))) (hf : w.frozen? ⟨p, 0, none⟩ = false) (hq : w.cell? ⟨q, 0, none⟩ = some (.int .i64 f)) (hpq : p ≠ q) (u v : Int) :
    Calls Try.prog 144 #[.int .i64 u, .int .i64 v, .pointer (some ⟨p, 0, none⟩), .pointer (some ⟨q, 0, none⟩)] w fun e w' => e = .returned (.bool (decide (dst s (k + 1) % 100 < f))) ∧ w' = w.setCell ⟨p, 0, none⟩ (.int .i64 (dst s (k + 1))) := by
  have g1 := dst_ge s k
  have g2 := dst_lt s k
  have g3 := dst_ge s (k + 1)
  have g4 := dst_lt s (k + 1)
  have r1 := rem_step' s k
  have r2 := rem_test s (k + 1)
  generalize dst s (k + 1) = y at *
  generalize dst s k = x at *
  have c1 : (w.setCell ⟨p, 0, none⟩ (.int .i64 y)).cell? ⟨p, 0, none⟩ = some (.int .i64 y) := cell_set_same _ hp
  have c2 : (w.setCell ⟨p, 0, none⟩ (.int .i64 y)).cell? ⟨q, 0, none⟩ = some (.int .i64 f) := by
    rw [World.cell?_of_block (w := w) (heap_setCell_other _ _ _ _ (by simpa using fun e => hpq e.symm))]; exact hq
  obtain ⟨z, hz⟩ : ∃ z, z = y % 100 := ⟨_, rfl⟩
  rw [← hz] at r2 ⊢
  clear hz hpq
  go_enter Try.func144, Try.ntmps144
  go_wp2
  go_ret
  exact ⟨rfl, rfl⟩

set_option maxHeartbeats 1600000 in
theorem diceRule_gen (s n f : Int) (nv : Value) (w : World) (h : ArgsAt w nv [s, n, f]) : Calls Try.prog 114 #[nv] w (GenPost w (if inB f 0 100 then n else 0) (diceR s f)) := by
  obtain ⟨k, o, c, rfl, hc⟩ := row_cells h (by simp)
  have h0 : w.cell? ⟨k, o, none⟩ = some (.int .i64 s) := hc 0 (by simp)
  have h1 : w.cell? ⟨k, o + 1, none⟩ = some (.int .i64 n) := hc 1 (by simp)
  have h2 : w.cell? ⟨k, o + 2, none⟩ = some (.int .i64 f) := hc 2 (by simp)
  have hmf : ∀ (fn : Fn) (first cap : Array Value) (w : World), (Instr.makeFunc fn first cap).run Try.prog w = .ok (.func fn first cap) w := fun _ _ _ _ => rfl
  have a0 : ∀ x, (w.alloc (.cells #[.int .i64 x] 2)).cell? ⟨k, o, none⟩ = some (.int .i64 s) := fun x => cell_keep ((Below.refl _ _).alloc (Nat.le_refl _) _) h0
  have a1 : ∀ x, (w.alloc (.cells #[.int .i64 x] 2)).cell? ⟨k, o + 1, none⟩ = some (.int .i64 n) := fun x => cell_keep ((Below.refl _ _).alloc (Nat.le_refl _) _) h1
  have a2 : ∀ x, (w.alloc (.cells #[.int .i64 x] 2)).cell? ⟨k, o + 2, none⟩ = some (.int .i64 f) := fun x => cell_keep ((Below.refl _ _).alloc (Nat.le_refl _) _) h2
  have HB0 : Hid (Below w.heap.size w (w.alloc (.cells #[.int .i64 f] 2)).drew) := ((Below.refl _ _).alloc (Nat.le_refl _) _).drew
  have HC0 : Hid ((w.alloc (.cells #[.int .i64 f] 2)).drew.cell? ⟨w.heap.size, 0, none⟩ = some (.int .i64 f)) := (BoxAt.new _ _ _).1
  have HSZ : Hid ((w.alloc (.cells #[.int .i64 f] 2)).drew.heap.size = w.heap.size + 1) := size_alloc1 _ _
  clear h hc
  by_cases hin : inB f 0 100 = true
  · have HN : Hid (∀ e W, GenPost w n (diceR s f) e W → GenPost w (if inB f 0 100 then n else 0) (diceR s f) e W) := fun e W h => by rw [if_pos hin]; exact h
    have HI := Lib.hid hin
    suffices hs : Calls Try.prog 114 #[.slice (some ⟨k, o, none⟩) [s, n, f].length c] w (GenPost w n (diceR s f)) from hs.mono HN.out
    have hb := rem_bounds s
    obtain ⟨t, ht⟩ : ∃ t, Int.tmod s 999999937 = t := ⟨_, rfl⟩
    have hr := rem_twice s
    rw [ht] at hb hr
    obtain ⟨hb1, hb2⟩ := hb
    have hd1 := dst_ge s 0
    have hd2 := dst_lt s 0
    obtain ⟨d, hd⟩ : ∃ d, dst s 0 = d := ⟨_, rfl⟩
    have HD := Lib.hid hd
    rw [hd] at hr hd1 hd2
    clear hin HN hd
    go_enter Try.func114, Try.ntmps114
    go_wp2_with fail
    go_region
    go_wp2_with fail
    refine (inRange_any _ _ _ _).mono ?_
    rintro e w' ⟨rfl, rfl⟩
    rw [HI.out]
    generalize (w.alloc (.cells #[.int .i64 f] 2)).drew = w1 at HB0 HC0 HSZ ⊢
    go_wp2
    refine bodyPost_ret (v := .tuple #[.int .i64 n, .func (.func 144) #[] #[.pointer (some ⟨w1.heap.size, 0, none⟩), .pointer (some ⟨w.heap.size, 0, none⟩)]]) (by simp [results, Try.results114, go_sem]) rfl ?_
    have hst : Below w1.heap.size w1 (w1.alloc (.cells #[.int .i64 d] 2)) := (Below.refl _ _).alloc (Nat.le_refl _) _
    have hz : (w1.alloc (.cells #[.int .i64 d] 2)).heap.size = w.heap.size + 1 + 1 := by rw [size_alloc1, HSZ.out]
    have hz1 := HSZ.out
    refine ⟨_, rfl, HB0.out.trans (hst.mono HB0.out.size), fun hN => ⟨_, _, fun j w2 => w2.cell? ⟨w1.heap.size, 0, none⟩ = some (.int .i64 (dst s j)) ∧ w2.frozen? ⟨w1.heap.size, 0, none⟩ = false ∧ w2.cell? ⟨w.heap.size, 0, none⟩ = some (.int .i64 f), rfl, ⟨fun _ _ => by kernel_rfl, fun j w2 w3 hi _ hk => ⟨cell_of_same hi.1 (hk _ (by omega)), ?_, cell_of_same hi.2.2 (hk _ (by omega))⟩, fun u v w2 huv hv hi => ?_⟩, ?_⟩⟩
    · have e := hk w1.heap.size (by omega)
      have hf := hi.2.1
      unfold World.frozen? at hf ⊢
      rw [e]; exact hf
    · refine (diceRule1_any (tri v + u) w1.heap.size w.heap.size s f w2 hi.1 hi.2.1 hi.2.2 (by omega) _ _).mono ?_
      rintro e w3 ⟨rfl, rfl⟩
      refine ⟨rfl, ⟨cell_set_same _ hi.1, ?_, ?_⟩, ?_⟩
      · rw [World.frozen?_setCell]; exact hi.2.1
      · rw [World.cell?_of_block (w := w2) (heap_setCell_other _ _ _ _ (by simp; omega))]; exact hi.2.2
      · exact ⟨rfl, rfl, rfl, by rw [size_setCell1]; exact Nat.le_refl _, fun j hj h => heap_setCell_other _ _ _ _ (by simp; omega)⟩
    · exact ⟨by rw [HD.out]; exact (BoxAt.new _ _ _).1, (BoxAt.new _ _ _).2, cell_keep hst HC0.out⟩
  · have hin' : inB f 0 100 = false := by simpa using hin
    have HN : Hid (∀ e W, GenPost w 0 (diceR s f) e W → GenPost w (if inB f 0 100 then n else 0) (diceR s f) e W) := fun e W h => by rw [if_neg hin]; exact h
    have HI := Lib.hid hin'
    suffices hs : Calls Try.prog 114 #[.slice (some ⟨k, o, none⟩) [s, n, f].length c] w (GenPost w 0 (diceR s f)) from hs.mono HN.out
    clear hin hin' HN
    go_enter Try.func114, Try.ntmps114
    go_wp2_with fail
    go_region
    go_wp2_with fail
    refine (inRange_any _ _ _ _).mono ?_
    rintro e w' ⟨rfl, rfl⟩
    rw [HI.out]
    go_wp2
    refine bodyPost_ret (v := .tuple #[.int .i64 0, .nilFunc]) (by simp [results, Try.results114, go_sem]) rfl ?_
    exact ⟨_, rfl, HB0.out, fun h => by simp [inB] at h⟩

end Go.Proofs.Ytojbaepcflkgeaa

/- Walks: the program's generators of dice. Written by program (tools/gen/genimpl.py). -/
namespace Go.Proofs.Ytojbaepcflkgeaa
open Go.RowKit

set_option maxHeartbeats 800000 in
theorem implDiceGraph_any (s n f : Int) (w : World) : Calls Try.prog 31 #[.int .i64 s, .int .i64 n, .int .i64 f] w (GaveGB w (genL (diceB n f) n.toNat (diceR s f)) (diceB n f)) := by
  have HB0 : Hid (Below w.heap.size w ((w.alloc (.cells #[.slice none 0 0] 30)).alloc (.cells #[.int .i64 s, .int .i64 n, .int .i64 f] 2))) := ((Below.refl _ _).alloc (Nat.le_refl _) _).alloc (by simp) _
  have HBX0 : Hid (BoxAt ((w.alloc (.cells #[.slice none 0 0] 30)).alloc (.cells #[.int .i64 s, .int .i64 n, .int .i64 f] 2)) w.heap.size (.slice none 0 0)) := (BoxAt.new w _ _).keep ((Below.refl _ _).alloc (Nat.le_refl _) _)
  have hrow : ArgsAt ((w.alloc (.cells #[.slice none 0 0] 30)).alloc (.cells #[.int .i64 s, .int .i64 n, .int .i64 f] 2)) (.slice (some ⟨w.heap.size + 1, 0, none⟩) 3 3) [s, n, f] := by
    have h := ArgsAt.new (w.alloc (.cells #[.slice none 0 0] 30)) [s, n, f] 3
    rw [size_alloc1] at h
    exact h
  have HR := Lib.hid hrow
  have HSZ : Hid (((w.alloc (.cells #[.slice none 0 0] 30)).alloc (.cells #[.int .i64 s, .int .i64 n, .int .i64 f] 2)).heap.size = w.heap.size + 1 + 1) := by show _ = _; rw [size_alloc1, size_alloc1]
  obtain ⟨N, hN⟩ : ∃ N, N = (if inB f 0 100 then n else 0) := ⟨_, rfl⟩
  have HQ : Hid (∀ e W, GaveGB w (genL (inB N 1 16) N.toNat (diceR s f)) (inB N 1 16) e W → GaveGB w (genL (diceB n f) n.toNat (diceR s f)) (diceB n f) e W) := fun e W h => by
    have he : genL (inB N 1 16) N.toNat (diceR s f) = genL (diceB n f) n.toNat (diceR s f) ∧ inB N 1 16 = (diceB n f) := by
      rw [hN]
      exact genL_to (by unfold diceB; cases inB f 0 100 with | false => (rw [Bool.and_false]; rfl) | true => (rw [Bool.and_true]; rfl)) (fun h => by unfold diceB at h; rw [Bool.and_eq_true] at h; rw [if_pos h.2])
    rw [← he.1, ← he.2]; exact h
  have HG : Hid (∀ W, Below ((w.alloc (.cells #[.slice none 0 0] 30)).alloc (.cells #[.int .i64 s, .int .i64 n, .int .i64 f] 2)).heap.size ((w.alloc (.cells #[.slice none 0 0] 30)).alloc (.cells #[.int .i64 s, .int .i64 n, .int .i64 f] 2)) W → Calls Try.prog 114 #[.slice (some ⟨w.heap.size + 1, 0, none⟩) 3 3] W (GenPost W N (diceR s f))) := fun W hb => by
    rw [hN]
    exact diceRule_gen s n f _ W (HR.out.keep hb)
  clear hrow hN
  go_enter Try.func31, Try.ntmps31
  go_wp2_with fail
  refine (made7_any _ N (diceR s f) _ HG.out).mono ?_
  rintro e w2 ⟨n2, a2, c2, rfl, ho2, hb2⟩
  have kr := (HBX0.out.keep hb2).1
  have kf := (HBX0.out.keep hb2).2
  have hgl := (HBX0.out.keep hb2).lt
  have HB2 : Hid (Below w.heap.size w w2) := HB0.out.trans (hb2.mono HB0.out.size)
  have HO2 := Lib.hid ho2
  have hz := HSZ.out
  clear ho2 hb2
  obtain ⟨ok, hok⟩ : ∃ ok, ok = inB N 1 16 := ⟨_, rfl⟩
  have HK := Lib.hid hok
  rw [← hok]
  clear hok
  go_wp2
  refine bodyPost_ret (v := .tuple #[.agg #[.slice a2 n2 c2], .bool ok]) (by simp [results, Try.results31, go_sem, cell_set_same _ kr]) rfl ?_
  refine HQ.out _ _ ?_
  rw [← HK.out]
  exact ⟨n2, a2, c2, rfl, (by rw [HK.out]; exact HO2.out.setBelow (by simp; omega) _ : OwnGrid _ _ _ _ _ _).mono (by omega), HB2.out.setCell (by simp) _⟩

end Go.Proofs.Ytojbaepcflkgeaa
