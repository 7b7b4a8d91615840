/- Walks: OrderWidth of the program. -/
import Derived.Test.YtgnmggjihkfnoaaQER6

namespace Go.Proofs.Ytgnmggjihkfnoaa
open Go.RowKit

set_option maxHeartbeats 2000000 in
set_option maxRecDepth 100000 in
theorem implOrderWidth_any (v v1 : Value) (L : List (List Int)) (xs : List Int) (w : World) (h : GridAt w v L) (h1 : RowAt w v1 xs) : Calls Try.prog 26 #[.agg #[v], v1] w fun e w' => e = .returned (.int .i64 (widthI L xs)) ∧ Below w.heap.size w w' := by
  obtain ⟨a0, c0, rfl⟩ := h.slice
  have HGK : Hid (∀ w', Below w.heap.size w w' → GridAt w' (.slice a0 L.length c0) L) := fun w' hb => h.keep hb
  have HRK : Hid (∀ w', Below w.heap.size w w' → RowAt w' v1 xs) := fun w' hb => h1.keep hb
  have HB0 : Hid (Below w.heap.size w (w.alloc (.cells #[.slice a0 L.length c0] 29))) := (Below.refl _ _).alloc (Nat.le_refl _) _
  have HX0 : Hid (BoxAt (w.alloc (.cells #[.slice a0 L.length c0] 29)) w.heap.size (.slice a0 L.length c0)) := BoxAt.new _ _ _
  clear h h1
  go_enter Try.func26, Try.ntmps26
  go_wp2_with fail
  refine (orderedNet_any _ _ L xs _ (HGK.out _ HB0.out) (HRK.out _ HB0.out)).mono ?_
  rintro e w1 ⟨rfl, hb1⟩
  have HB1 : Hid (Below w.heap.size w w1) := HB0.out.trans (hb1.mono HB0.out.size)
  have HX1 := Lib.hid (HX0.out.keep hb1)
  have hz1 := HB1.out.size
  have hnb := netBlk_new w1 0 (fun _ => 0)
  clear hb1
  by_cases hok : orderB L xs = true
  · obtain ⟨hG, hO, _, _⟩ := orderB_yes hok
    have hz := hG.1
    have HI := Lib.hid hok
    have HG := Lib.hid hG
    have HO := Lib.hid hO
    have HREL := Lib.hid (adjB_rel hG)
    rw [hok]
    clear hok hG hO
    go_wp2_with (refine wpList_store_net rfl 63 (.tmp 5) (.tmp 14) rfl w1.heap.size (ordN L xs) (ordM L xs) rfl rfl Try.sizeNet 0 (fun _ => 0) hnb ?_; intro w3 hp; have HN3 := Lib.hid (ord_net hp.net HI.out); have HB3 : Hid (Below w.heap.size w w3) := (HB1.out.alloc hz1 _).trans (hp.below.mono hz1); have HX3 : Hid (BoxAt w3 w.heap.size (.slice a0 L.length c0)) := (HX1.out.keep ((Below.refl _ _).alloc (Nat.le_refl _) _)).keepB hp.below HX1.out.lt; clear hp)
    refine (later_any w1.heap.size L.length (adjB L) _ xs _ HN3.out hz HREL.out (HRK.out _ HB3.out) HO.out).mono ?_
    rintro e w4 ⟨rfl, hb4⟩
    obtain ⟨M, hM⟩ : ∃ M : Nat → Nat, M = fun i => pm (laterA (adjB L) xs i) := ⟨_, rfl⟩
    have HML : Hid (∀ k, M k < 65536) := fun k => by rw [hM]; exact pm_lt _
    rw [← hM]
    have HB4 : Hid (Below w.heap.size w w4) := HB3.out.trans (hb4.mono HB3.out.size)
    have HX4 := Lib.hid (HX3.out.keep hb4)
    clear hb4 hnb
    have HW : Hid (∀ q, q = 16 → maxTo (fun i => bitsTo (M i) 16) q = widthX (adjB L) xs L.length) := fun q hq => by rw [hq, hM]; exact lat_max HREL.out hz.2 xs
    clear hM
    have HF : Hid (widthI L xs = (widthX (adjB L) xs L.length : Int)) := by show _ = _; unfold widthI; rw [HI.out]; rfl
    go_wp2_with fail
    go_loopw [7, 20] (fun s i wr => ∃ k : Nat, k ≤ 16 ∧ i = .int .i64 k ∧ s = .int .i64 ((maxTo (fun i => bitsTo (M i) 16) k : Nat) : Int) ∧ Drawn w4 wr) (fun _ i _ => 16 - (intOf i).toNat)
    case atStart => exact ⟨0, Nat.zero_le _, rfl, rfl, Drawn.refl _⟩
    case round =>
      obtain ⟨k, hk, rfl, rfl, hd⟩ := hrel
      have HS : Hid (True → maxTo (fun i => bitsTo (M i) 16) (k + 1) = max (maxTo (fun i => bitsTo (M i) 16) k) (bitsTo (M k) 16)) := fun _ => rfl
      obtain ⟨s, hs⟩ : ∃ s, s = maxTo (fun i => bitsTo (M i) 16) k := ⟨_, rfl⟩
      have HSS : Hid (True → s = maxTo (fun i => bitsTo (M i) 16) k) := fun _ => hs
      rw [← hs] at HS ⊢
      clear hs
      have HD := Lib.hid hd
      by_cases hlt : k < 16
      · have hltI : (k : Int) < 16 := by omega
        have hix := run_index_masks M k hlt
        have hml := HML.out k
        clear hd
        go_wp2_with fail
        refine (size_any _ _ hml).mono ?_
        rintro e w5 ⟨rfl, hd5⟩
        have HD5 := Lib.hid (HD.out.trans hd5)
        obtain ⟨r, hr⟩ : ∃ r, r = bitsTo (M k) 16 := ⟨_, rfl⟩
        rw [← hr] at HS ⊢
        clear hd5 hix hr
        go_wp2
        go_roundw
        case rel => exact ⟨k + 1, by omega, by go_num, by rw [HS.out trivial]; congr 1; omega, HD5.out⟩
        case measure => simp [intOf]; omega
      · obtain rfl : k = 16 := by omega
        have HS2 : Hid (True → s = widthX (adjB L) xs L.length) := fun _ => by rw [HSS.out trivial]; exact HW.out _ rfl
        clear hd
        go_wp2
        go_ret
        exact ⟨ret_int (by rw [HF.out, HS2.out trivial]), HB4.out.trans (HD.out.below _ |>.mono HB4.out.size)⟩
  · have hok' : orderB L xs = false := by simpa using hok
    have HI : Hid (widthI L xs = -1) := by show _ = _; unfold widthI; rw [hok']; rfl
    rw [hok']
    clear hok hok'
    go_wp2_with (refine wpList_store_net rfl 63 (.tmp 5) (.tmp 14) rfl w1.heap.size (ordN L xs) (ordM L xs) rfl rfl Try.sizeNet 0 (fun _ => 0) hnb ?_; intro w3 hp; have HB3 : Hid (Below w.heap.size w w3) := (HB1.out.alloc hz1 _).trans (hp.below.mono hz1); clear hp)
    go_ret
    exact ⟨ret_int HI.out.symm, HB3.out⟩

end Go.Proofs.Ytgnmggjihkfnoaa
