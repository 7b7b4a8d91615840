/- Walks: PathOf, of the program. -/
import Derived.Test.YtjbfoiolcpigfaaDoorPO5
import Derived.Test.YtjbfoiolcpigfaaDoorC5

namespace Go.Proofs.YtjbfoiolcpigfaaDoor
open Go.RowKit

theorem poL_path {L : List (List Int)} (hG : GraphP L) {p s : Nat} (hp : p < L.length) (hs : s < L.length) : poL L (p : Int) (s : Int) = pathN (rowM L) L.length p s := by
  have h1 : inB (p : Int) 0 ((L.length : Int) - 1) = true := by simp [inB]; omega
  have h2 : inB (s : Int) 0 ((L.length : Int) - 1) = true := by simp [inB]; omega
  unfold poL poB pathN
  rw [decide_eq_true hG, h1, h2, Int.toNat_natCast, Int.toNat_natCast, nearM_eq hG]
  simp only [Bool.true_and, decide_eq_true_iff]
theorem poL_off {L : List (List Int)} {x y : Int} (h : (inB x 0 ((L.length : Int) - 1) && inB y 0 ((L.length : Int) - 1)) = false) : poL L x y = [] := by
  apply poL_no
  unfold poB
  rw [Bool.and_assoc (decide (GraphP L)), h]
  simp

set_option maxHeartbeats 4000000 in
set_option maxRecDepth 100000 in
theorem implPathOf_any (v : Value) (L : List (List Int)) (x y : Int) (w : World) (h : GridAt w v L) (_hx : I64 x) (_hy : I64 y) (hT : TabAt w) : Calls Tryd.prog 34 #[.agg #[v], .int .i64 x, .int .i64 y] w (GaveRow w (poL L x y)) := by
  obtain ⟨a0, c0, rfl⟩ := h.slice
  have ha : Below w.heap.size w (w.alloc (.cells #[.slice a0 L.length c0] 29)) := (Below.refl _ _).alloc (Nat.le_refl _) _
  have hk := h.keep ha
  have HA := Lib.hid ha
  clear ha
  go_enter Tryd.func34, Tryd.ntmps34
  go_wp2_with fail
  refine (netOf_any _ _ _ hk).mono ?_
  rintro e w1 ⟨rfl, hb1⟩
  have HB1 : Hid (Below w.heap.size w w1) := HA.out.trans (hb1.mono (by simp))
  have hz : w.heap.size ≤ w1.heap.size := HB1.out.size
  have hnb := netBlk_new w1 0 (fun _ => 0)
  clear hb1 hk h HA
  by_cases hG : GraphP L
  · have hzz := hG.1
    have HLT : Hid (∀ i, rowM L i < 65536) := fun i => rowM_lt (by omega) (fun v hv => (hG.2.1 v hv).1) i
    have HSY : Hid (∀ a b, nearM (rowM L) a b = nearM (rowM L) b a) := by rw [nearM_eq hG]; exact nearB_symm hG
    have HG := Lib.hid hG
    rw [decide_eq_true hG, netArr_yes hG]
    clear hG
    have hdx : Hid (decide (0 ≤ x ∧ x < (L.length : Int)) = inB x 0 ((L.length : Int) - 1)) := (inB_vertex _ _).symm
    have hdy : Hid (decide (0 ≤ y ∧ y < (L.length : Int)) = inB y 0 ((L.length : Int) - 1)) := (inB_vertex _ _).symm
    by_cases hinx : inB x 0 ((L.length : Int) - 1) = true
    · by_cases hiny : inB y 0 ((L.length : Int) - 1) = true
      · have hxx : 0 ≤ x ∧ x ≤ (L.length : Int) - 1 := by simpa [inB] using hinx
        have hyy : 0 ≤ y ∧ y ≤ (L.length : Int) - 1 := by simpa [inB] using hiny
        have HX := Lib.hid hinx
        have HY := Lib.hid hiny
        obtain ⟨p, rfl⟩ : ∃ p : Nat, x = (p : Int) := ⟨x.toNat, by omega⟩
        obtain ⟨s, rfl⟩ : ∃ s : Nat, y = (s : Int) := ⟨y.toNat, by omega⟩
        have hp : p < L.length := by omega
        have hs : s < L.length := by omega
        have HE := Lib.hid (poL_path HG.out hp hs)
        clear hinx hiny hxx hyy
        go_wp2_with (first | (refine wpList_store_net rfl 74 (.tmp 7) (.tmp 12) rfl w1.heap.size L.length (rowM L) rfl rfl Tryd.sizeNet 0 (fun _ => 0) hnb ?_; intro w3 hp3; have hn0 := hp3.net.at.1; have HNet := Lib.hid hp3.net.at; have HB3 : Hid (Below w.heap.size w w3) := (HB1.out.alloc hz _).trans (hp3.below.mono hz); clear hp3) | (go_at_call 87; refine (isVertex_any _ _ _).mono ?_; rintro e w' ⟨rfl, rfl⟩; first | rw [hdx.out, HX.out] | rw [hdy.out, HY.out]) | (go_at_call 90; refine (path_any _ L.length p s (rowM L) _ HNet.out (hT.keep HB3.out) HLT.out hzz HSY.out hp hs).mono ?_; rintro e w4 ⟨n4, a4, c4, rfl, ho4, hb4⟩; have HP : Hid (GaveRow w (poL L p s) (.returned (.slice a4 n4 c4)) w4) := (by rw [HE.out]; exact ⟨_, _, _, rfl, ho4.mono HB3.out.size, HB3.out.trans (hb4.mono HB3.out.size)⟩); clear ho4 hb4))
        go_ret
        exact HP.out
      · have hiny' : inB y 0 ((L.length : Int) - 1) = false := by simpa using hiny
        have HE : Hid (poL L x y = []) := poL_off (by rw [hiny']; simp)
        have HX := Lib.hid hinx
        have HY := Lib.hid hiny'
        clear hinx hiny hiny'
        go_wp2_with (first | (refine wpList_store_net rfl 74 (.tmp 7) (.tmp 12) rfl w1.heap.size L.length (rowM L) rfl rfl Tryd.sizeNet 0 (fun _ => 0) hnb ?_; intro w3 hp3; have hn0 := hp3.net.at.1; have HB3 : Hid (Below w.heap.size w w3) := (HB1.out.alloc hz _).trans (hp3.below.mono hz); clear hp3) | (go_at_call 87; refine (isVertex_any _ _ _).mono ?_; rintro e w' ⟨rfl, rfl⟩; first | rw [hdx.out, HX.out] | rw [hdy.out, HY.out]))
        go_ret
        exact ⟨0, none, 0, rfl, by rw [HE.out]; exact ⟨by simp, Nat.zero_le _, .inl ⟨rfl, rfl⟩⟩, HB3.out⟩
    · have hinx' : inB x 0 ((L.length : Int) - 1) = false := by simpa using hinx
      have HE : Hid (poL L x y = []) := poL_off (by rw [hinx']; simp)
      have HX := Lib.hid hinx'
      clear hinx hinx'
      go_wp2_with (first | (refine wpList_store_net rfl 74 (.tmp 7) (.tmp 12) rfl w1.heap.size L.length (rowM L) rfl rfl Tryd.sizeNet 0 (fun _ => 0) hnb ?_; intro w3 hp3; have hn0 := hp3.net.at.1; have HB3 : Hid (Below w.heap.size w w3) := (HB1.out.alloc hz _).trans (hp3.below.mono hz); clear hp3) | (go_at_call 87; refine (isVertex_any _ _ _).mono ?_; rintro e w' ⟨rfl, rfl⟩; rw [hdx.out, HX.out]))
      go_ret
      exact ⟨0, none, 0, rfl, by rw [HE.out]; exact ⟨by simp, Nat.zero_le _, .inl ⟨rfl, rfl⟩⟩, HB3.out⟩
  · have HE : Hid (poL L x y = []) := poL_no (by unfold poB; rw [decide_eq_false hG]; simp)
    rw [decide_eq_false hG, netArr_no hG]
    clear hG
    go_wp2_with (refine wpList_store_net rfl 74 (.tmp 7) (.tmp 12) rfl w1.heap.size 0 (fun _ => 0) rfl rfl Tryd.sizeNet 0 (fun _ => 0) hnb ?_; intro w3 hp; have HB3 : Hid (Below w.heap.size w w3) := (HB1.out.alloc hz _).trans (hp.below.mono hz); clear hp)
    go_ret
    exact ⟨0, none, 0, rfl, by rw [HE.out]; exact ⟨by simp, Nat.zero_le _, .inl ⟨rfl, rfl⟩⟩, HB3.out⟩

end Go.Proofs.YtjbfoiolcpigfaaDoor
