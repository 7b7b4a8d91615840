/- The texts PO6, PA1, PA2, joined. -/
import Derived.Test.YtjbfoiolcpigfaaDoorPO5
import Derived.Test.YtjbfoiolcpigfaaDoorC5
import Derived.Test.YtjbfoiolcpigfaaDoorQS1
import Derived.Test.YtjbfoiolcpigfaaDoorQPO1
import Derived.Test.YtjbfoiolcpigfaaDoorQY1
import Derived.Test.YtjbfoiolcpigfaaDoorQK2
import Derived.Test.YtjbfoiolcpigfaaDoorK4
import Derived.Test.YtjbfoiolcpigfaaDoorQD5
import Derived.Test.YtjbfoiolcpigfaaDoorQLater

/- Walks: PathOf, of the program. -/
namespace Go.Proofs.YtjbfoiolcpigfaaDoor
open Go.RowKit

theorem poL_path {L : List (List Int)} (hG : GraphP L) {p s : Nat} (hp : p < L.length) (hs : s < L.length) : poL L (p : Int) (s : Int) = pathN (rowM L) L.length p s := by
  have h1 : inB (p : Int) 0 ((L.length : Int) - 1) = true := by simp [inB]; omega
  have h2 : inB (s : Int) 0 ((L.length : Int) - 1) = true := by simp [inB]; omega
  unfold poL poB pathN
  rw [decide_eq_true hG, h1, h2, Int.toNat_natCast, Int.toNat_natCast, nearM_eq hG]
  simp only [Bool.true_and, decide_eq_true_iff]
theorem poL_off {L : List (List Int)} {x y : Int} (h : (inB x 0 ((L.length : Int) - 1) && inB y 0 ((L.length : Int) - 1)) = false) : poL L x y = [] := by
  apply poL_no
  unfold poB
  rw [Bool.and_assoc (decide (GraphP L)), h]
  simp

set_option maxHeartbeats 4000000 in
set_option maxRecDepth 100000 in
theorem implPathOf_any (v : Value) (L : List (List Int)) (x y : Int) (w : World) (h : GridAt w v L) (_hx : I64 x) (_hy : I64 y) (hT : TabAt w) : Calls Tryd.prog 34 #[.agg #[v], .int .i64 x, .int .i64 y] w (GaveRow w (poL L x y)) := by
  obtain ⟨a0, c0, rfl⟩ := h.slice
  have ha : Below w.heap.size w (w.alloc (.cells #[.slice a0 L.length c0] 29)) := (Below.refl _ _).alloc (Nat.le_refl _) _
  have hk := h.keep ha
  have HA := Lib.hid ha
  clear ha
  go_enter Tryd.func34, Tryd.ntmps34
  go_wp2_with fail
  refine (netOf_any _ _ _ hk).mono ?_
  rintro e w1 ⟨rfl, hb1⟩
  have HB1 : Hid (Below w.heap.size w w1) := HA.out.trans (hb1.mono (by simp))
  have hz : w.heap.size ≤ w1.heap.size := HB1.out.size
  have hnb := netBlk_new w1 0 (fun _ => 0)
  clear hb1 hk h HA
  by_cases hG : GraphP L
  · have hzz := hG.1
    have HLT : Hid (∀ i, rowM L i < 65536) := fun i => rowM_lt (by omega) (fun v hv => (hG.2.1 v hv).1) i
    have HSY : Hid (∀ a b, nearM (rowM L) a b = nearM (rowM L) b a) := by rw [nearM_eq hG]; exact nearB_symm hG
    have HG := Lib.hid hG
    rw [decide_eq_true hG, netArr_yes hG]
    clear hG
    have hdx : Hid (decide (0 ≤ x ∧ x < (L.length : Int)) = inB x 0 ((L.length : Int) - 1)) := (inB_vertex _ _).symm
    have hdy : Hid (decide (0 ≤ y ∧ y < (L.length : Int)) = inB y 0 ((L.length : Int) - 1)) := (inB_vertex _ _).symm
    by_cases hinx : inB x 0 ((L.length : Int) - 1) = true
    · by_cases hiny : inB y 0 ((L.length : Int) - 1) = true
      · have hxx : 0 ≤ x ∧ x ≤ (L.length : Int) - 1 := by simpa [inB] using hinx
        have hyy : 0 ≤ y ∧ y ≤ (L.length : Int) - 1 := by simpa [inB] using hiny
        have HX := Lib.hid hinx
        have HY := Lib.hid hiny
        obtain ⟨p, rfl⟩ : ∃ p : Nat, x = (p : Int) := ⟨x.toNat, by omega⟩
        obtain ⟨s, rfl⟩ : ∃ s : Nat, y = (s : Int) := ⟨y.toNat, by omega⟩
        have hp : p < L.length := by omega
        have hs : s < L.length := by omega
        have HE := Lib.hid (poL_path HG.out hp hs)
        clear hinx hiny hxx hyy
        go_wp2_with (first | (refine wpList_store_net rfl 74 (.tmp 7) (.tmp 12) rfl w1.heap.size L.length (rowM L) rfl rfl Tryd.sizeNet 0 (fun _ => 0) hnb ?_; intro w3 hp3; have hn0 := hp3.net.at.1; have HNet := Lib.hid hp3.net.at; have HB3 : Hid (Below w.heap.size w w3) := (HB1.out.alloc hz _).trans (hp3.below.mono hz); clear hp3) | (go_at_call 87; refine (isVertex_any _ _ _).mono ?_; rintro e w' ⟨rfl, rfl⟩; first | rw [hdx.out, HX.out] | rw [hdy.out, HY.out]) | (go_at_call 90; refine (path_any _ L.length p s (rowM L) _ HNet.out (hT.keep HB3.out) HLT.out hzz HSY.out hp hs).mono ?_; rintro e w4 ⟨n4, a4, c4, rfl, ho4, hb4⟩; have HP : Hid (GaveRow w (poL L p s) (.returned (.slice a4 n4 c4)) w4) := (by rw [HE.out]; exact ⟨_, _, _, rfl, ho4.mono HB3.out.size, HB3.out.trans (hb4.mono HB3.out.size)⟩); clear ho4 hb4))
        go_ret
        exact HP.out
      · have hiny' : inB y 0 ((L.length : Int) - 1) = false := by simpa using hiny
        have HE : Hid (poL L x y = []) := poL_off (by rw [hiny']; simp)
        have HX := Lib.hid hinx
        have HY := Lib.hid hiny'
        clear hinx hiny hiny'
        go_wp2_with (first | (refine wpList_store_net rfl 74 (.tmp 7) (.tmp 12) rfl w1.heap.size L.length (rowM L) rfl rfl Tryd.sizeNet 0 (fun _ => 0) hnb ?_; intro w3 hp3; have hn0 := hp3.net.at.1; have HB3 : Hid (Below w.heap.size w w3) := (HB1.out.alloc hz _).trans (hp3.below.mono hz); clear hp3) | (go_at_call 87; refine (isVertex_any _ _ _).mono ?_; rintro e w' ⟨rfl, rfl⟩; first | rw [hdx.out, HX.out] | rw [hdy.out, HY.out]))
        go_ret
        exact ⟨0, none, 0, rfl, by rw [HE.out]; exact ⟨by simp, Nat.zero_le _, .inl ⟨rfl, rfl⟩⟩, HB3.out⟩
    · have hinx' : inB x 0 ((L.length : Int) - 1) = false := by simpa using hinx
      have HE : Hid (poL L x y = []) := poL_off (by rw [hinx']; simp)
      have HX := Lib.hid hinx'
      clear hinx hinx'
      go_wp2_with (first | (refine wpList_store_net rfl 74 (.tmp 7) (.tmp 12) rfl w1.heap.size L.length (rowM L) rfl rfl Tryd.sizeNet 0 (fun _ => 0) hnb ?_; intro w3 hp3; have hn0 := hp3.net.at.1; have HB3 : Hid (Below w.heap.size w w3) := (HB1.out.alloc hz _).trans (hp3.below.mono hz); clear hp3) | (go_at_call 87; refine (isVertex_any _ _ _).mono ?_; rintro e w' ⟨rfl, rfl⟩; rw [hdx.out, HX.out]))
      go_ret
      exact ⟨0, none, 0, rfl, by rw [HE.out]; exact ⟨by simp, Nat.zero_le _, .inl ⟨rfl, rfl⟩⟩, HB3.out⟩
  · have HE : Hid (poL L x y = []) := poL_no (by unfold poB; rw [decide_eq_false hG]; simp)
    rw [decide_eq_false hG, netArr_no hG]
    clear hG
    go_wp2_with (refine wpList_store_net rfl 74 (.tmp 7) (.tmp 12) rfl w1.heap.size 0 (fun _ => 0) rfl rfl Tryd.sizeNet 0 (fun _ => 0) hnb ?_; intro w3 hp; have HB3 : Hid (Below w.heap.size w w3) := (HB1.out.alloc hz _).trans (hp.below.mono hz); clear hp)
    go_ret
    exact ⟨0, none, 0, rfl, by rw [HE.out]; exact ⟨by simp, Nat.zero_le _, .inl ⟨rfl, rfl⟩⟩, HB3.out⟩

end Go.Proofs.YtjbfoiolcpigfaaDoor

/- Plain facts: paths and distances. -/
namespace Go.Proofs.YtjbfoiolcpigfaaDoor

section
variable {A : Nat → Nat → Bool} {S : Nat → Bool} {v : Nat}
/-- Neighbours are no farther than one step apart. -/
theorem dOf_step {a b : Nat} (hb : S b = true) (h : A a b = true) : dOf A S v a < 0 ∨ (0 ≤ dOf A S v b ∧ dOf A S v b ≤ dOf A S v a + 1) := by
  rcases Classical.em (∃ k, AtD A S v k a) with ⟨k, hk⟩ | hn
  · right
    have hw : Wk A S v (k + 1) b := ⟨hb, a, hk.1, h⟩
    obtain ⟨j, hj, ha⟩ := wk_atD hw
    rw [dOf_at hk, dOf_at ha]
    omega
  · left
    rw [dOf_none (fun k hk => hn ⟨k, hk⟩)]
    omega
theorem dOf_near (hA : ∀ a b, A a b = A b a) {a b : Nat} (ha : S a = true) (hb : S b = true) (h : A a b = true) : dOf A S v a - dOf A S v b ≤ 1 ∧ dOf A S v b - dOf A S v a ≤ 1 ∧ (dOf A S v a < 0 ↔ dOf A S v b < 0) := by
  have h1 := dOf_step (v := v) hb h
  have h2 := dOf_step (A := A) (v := v) (a := b) ha (by rw [hA]; exact h)
  have h3 := dOf_ge (A := A) (S := S) (v := v) a
  have h4 := dOf_ge (A := A) (S := S) (v := v) b
  omega
end

/-- What the law asks of a path: as many vertices as steps and one; each step goes down; its ends. -/
structure WayP (L : List (List Int)) (D X : List Int) (p s : Nat) : Prop where
  len : (X.length : Int) = nth D p + 1
  le : X.length ≤ 16
  step : ∀ i, i + 1 < X.length → ∃ (x y : Nat) (d : Int), nth X i = (x : Int) ∧ nth X (i + 1) = (y : Int) ∧ x < L.length ∧ y < L.length ∧ edgeB L (x : Int) (y : Int) = true ∧ nth D x = d + 1 ∧ nth D y = d ∧ 0 ≤ d ∧ d ≤ 16
  ends : X.length = 0 ∨ (0 < X.length ∧ nth X 0 = (p : Int) ∧ nth X (X.length - 1) = (s : Int))
theorem path_facts {L : List (List Int)} (hG : GraphP L) {p s : Nat} (hp : p < L.length) (hs : s < L.length) : WayP L (distL L.length (nearB L) (allS L.length) s) (poL L (p : Int) (s : Int)) p s := by
  have hz := hG.1
  have hS : ∀ u, allS L.length u = true → u < L.length := fun u hu => (allS_iff _ _).1 hu
  have hS16 : ∀ u, allS L.length u = true → u < 16 := fun u hu => by have := hS u hu; omega
  have hlt : ∀ i, rowM L i < 65536 := fun i => rowM_lt (by omega) (fun v hv => (hG.2.1 v hv).1) i
  have hMA : ∀ a b, nearM (rowM L) a b = (rowM L a).testBit b := fun _ _ => rfl
  have hA : ∀ a b, nearM (rowM L) a b = nearM (rowM L) b a := by rw [nearM_eq hG]; exact nearB_symm hG
  rw [poL_path hG hp hs]
  rcases Classical.em (∃ k, AtD (nearM (rowM L)) (allS L.length) s k p) with ⟨k, hk⟩ | hn
  · have hkn := atD_lt hS hk
    have hstep := curD_step hA hlt hMA hS16 hk
    have hnear := fun i (hi : i < k) => curD_near hA hlt hMA hS16 hk hi
    have hcn : ∀ i, i ≤ k → curD (rowM L) (ringN (nearM (rowM L)) (allS L.length) s) k p i < L.length := fun i hi => hS _ (wk_in (hstep i hi).1.1)
    have hd : ∀ i, i ≤ k → nth (distL L.length (nearB L) (allS L.length) s) (curD (rowM L) (ringN (nearM (rowM L)) (allS L.length) s) k p i) = ((k - i : Nat) : Int) := fun i hi => by
      rw [distL_nth (hcn i hi), ← nearM_eq hG, dOf_at (hstep i hi).1]
    rw [pathN_at hk]
    refine ⟨?_, by rw [wayD_len]; omega, fun i hi => ?_, .inr ⟨by rw [wayD_len]; omega, ?_, ?_⟩⟩
    · have := hd 0 (Nat.zero_le _)
      rw [wayD_len, show p = curD (rowM L) (ringN (nearM (rowM L)) (allS L.length) s) k p 0 from rfl, this]
      omega
    · rw [wayD_len] at hi
      refine ⟨_, _, ((k - (i + 1) : Nat) : Int), wayD_nth _ _ _ _ (by omega), wayD_nth _ _ _ _ (by omega), hcn i (by omega), hcn (i + 1) (by omega), ?_, ?_, hd (i + 1) (by omega), by omega, by omega⟩
      · rw [edgeB_adj hG (hcn i (by omega)) (hcn (i + 1) (by omega))]
        exact hnear i (by omega)
      · rw [hd i (by omega)]; omega
    · rw [wayD_nth _ _ _ _ (Nat.zero_le _)]; rfl
    · rw [wayD_len, wayD_nth _ _ _ _ (by omega), show k + 1 - 1 = k from by omega]
      have h0 := (hstep k (Nat.le_refl _)).1
      rw [Nat.sub_self] at h0
      rw [(atD_zero.1 h0).1]
  · have hn' : ∀ k, ¬ AtD (nearM (rowM L)) (allS L.length) s k p := fun k hk => hn ⟨k, hk⟩
    rw [pathN_no hn']
    refine ⟨?_, by simp, fun i hi => absurd hi (by simp), .inl rfl⟩
    rw [distL_nth hp, ← nearM_eq hG, dOf_none hn']
    rfl

end Go.Proofs.YtjbfoiolcpigfaaDoor

/- The walk of FnPaths. -/
namespace Go.Proofs.YtjbfoiolcpigfaaDoor
open Go.RowKit

set_option maxHeartbeats 8000000 in
set_option maxRecDepth 100000 in
theorem lawPaths (a0 : Option Addr) (n0 c0 : Nat) (w : World) (hb : n0 ≤ 4096 → BytesAt w w.heap.size (.slice a0 n0 c0) n0) (hT : TabAt w) :
    Calls Tryd.prog 5 #[.slice a0 n0 c0] w fun e w' => e = .returned (.bool true) ∧ Below w.heap.size w w' := by
  have HBY := Lib.hid hb
  clear hb
  go_enter Tryd.func5, Tryd.ntmps5
  go_wp2_with fail
  refine (big_any _ _ _ _).mono ?_
  rintro e w' ⟨rfl, rfl⟩
  by_cases hbig : (4096 : Int) < (n0 : Int)
  · rw [decide_eq_true hbig]
    go_wp2
    go_ret
    exact ⟨rfl, Below.refl _ _⟩
  rw [decide_eq_false hbig]
  have hby0 := HBY.out (by omega)
  have HB0 := Lib.hid hby0
  clear hby0 HBY hbig
  go_wp2_with fail
  refine (roll_any _ n0 804 w HB0.out).mono ?_
  rintro e w1 ⟨rfl, hd1, hb1⟩
  obtain ⟨d, hdd⟩ : ∃ d, d = w.heap.size := ⟨_, rfl⟩
  rw [← hdd] at hd1 HB0 ⊢
  have HDD := Lib.hid hdd
  have HD1 := Lib.hid hd1
  have hdl1 : d < w1.heap.size := hd1.lt
  have HY1 : Hid (BytesAt w1 d (.slice a0 n0 c0) n0) := by have := HB0.out.keepB hb1 (by omega); exact this
  have HW1 : Hid (Below d w w1) := by rw [hdd]; exact hb1
  clear hd1 hb1 hdd
  go_wp2_with fail
  refine (w5Graph_any d n0 9 _ w1 HD1.out HY1.out (by omega) (by omega)).mono ?_
  rintro e w2 ⟨L, m2, a2, c2, rfl, hG, hL9, ho2, hd2, ht2⟩
  obtain rfl : m2 = L.length := by
    obtain ⟨a3, c3, e3⟩ := ho2.grid.slice
    simp only [Value.slice.injEq] at e3
    exact e3.2.1
  have hz := hG.1
  have HG := Lib.hid hG
  have hz2 : w1.heap.size ≤ w2.heap.size := ht2.size
  have hbx : Below w2.heap.size w2 (w2.alloc (.cells #[.slice a2 L.length c2] 29)) := (Below.refl _ _).alloc (Nat.le_refl _) _
  have HO2 := Lib.hid (ho2.keep hbx)
  have HD2 := Lib.hid (hd2.keep hbx)
  have HT2 := Lib.hid (ht2.under hbx hz2)
  have BX2 := Lib.hid (BoxAt.new w2 (.slice a2 L.length c2) 29)
  have kb2 := BX2.out.1
  have hlI : (1 : Int) ≤ (L.length : Int) := by omega
  clear ho2 hd2 ht2 hbx hG
  go_wp2_with fail
  refine (below_any d n0 _ (L.length : Int) _ HD2.out (HT2.out.bytes HY1.out (Nat.le_of_lt hdl1)) hlI (by unfold I64; omega)).mono ?_
  rintro e w3 ⟨u, rfl, hu, hd3, ho3⟩
  obtain ⟨p, rfl⟩ : ∃ p : Nat, u = (p : Int) := ⟨u.toNat, by have := (hu.2 (by omega)).1; omega⟩
  have hp : p < L.length := by have := (hu.2 (by omega)).2; omega
  have HD3 := Lib.hid hd3
  have HT3 := Lib.hid (HT2.out.only ho3)
  have BX3 := Lib.hid (BX2.out.only ho3 (by omega))
  have HO3 := Lib.hid (HO2.out.touched (ho3.touched (Nat.le_refl _) (Nat.lt_succ_self _)) (by omega))
  clear hu hd3 ho3 HD2 HT2 BX2 HO2 kb2
  go_wp2_with fail
  refine (below_any d n0 _ (L.length : Int) _ HD3.out (HT3.out.bytes HY1.out (Nat.le_of_lt hdl1)) hlI (by unfold I64; omega)).mono ?_
  rintro e w4 ⟨u2, rfl, hu2, hd4, ho4⟩
  obtain ⟨s, rfl⟩ : ∃ s : Nat, u2 = (s : Int) := ⟨u2.toNat, by have := (hu2.2 (by omega)).1; omega⟩
  have hs : s < L.length := by have := (hu2.2 (by omega)).2; omega
  have HT4 := Lib.hid (HT3.out.only ho4)
  have BX4 := Lib.hid (BX3.out.only ho4 (by omega))
  have HO4 := Lib.hid (HO3.out.touched (ho4.touched (Nat.le_refl _) (Nat.lt_succ_self _)) (by omega))
  have KB : Hid (∀ w', Below w4.heap.size w4 w' → w'.cell? ⟨w2.heap.size, 0, none⟩ = some (.slice a2 L.length c2)) := fun w' h => (BX4.out.keep h).1
  have GK : Hid (∀ w', Below w4.heap.size w4 w' → GridAt w' (.slice a2 L.length c2) L) := fun w' h => (HO4.out.keep h).grid
  have HBW : Hid (Below w.heap.size w w4) := by
    have h1 : Below d w1 w4 := HT4.out.below (Nat.le_of_lt hdl1)
    have h3 := HW1.out.trans h1
    rwa [HDD.out] at h3
  have TK : Hid (∀ w', Below w4.heap.size w4 w' → TabAt w') := fun w' h => (hT.keep HBW.out).keep h
  clear hu2 hd4 ho4 HD3 HT3 BX3 HO3 HD1 HY1 HW1 HB0 HT4
  have kb4 := KB.out _ (Below.refl _ _)
  have hpI : I64 (p : Int) := by unfold I64; omega
  have hsI : I64 (s : Int) := by unfold I64; omega
  -- the distances
  go_wp2_with fail
  refine (implDistancesFrom_any _ L (s : Int) _ (GK.out _ (Below.refl _ _)) hsI).mono ?_
  rintro e w5 ⟨n5, a5, c5, rfl, ho5, hb5⟩
  have HDF : Hid (dfL L (s : Int) = distL L.length (nearB L) (allS L.length) s) := by
    show _ = _
    unfold dfL dfB
    rw [decide_eq_true HG.out, show inB (s : Int) 0 ((L.length : Int) - 1) = true from by simp [inB]; omega, Int.toNat_natCast]
    rfl
  rw [HDF.out] at ho5
  obtain ⟨D, hD⟩ : ∃ D, D = distL L.length (nearB L) (allS L.length) s := ⟨_, rfl⟩
  rw [← hD] at ho5
  have hDl : D.length = L.length := by rw [hD, distL_len]
  have HDL := Lib.hid hDl
  have HDE := Lib.hid hD
  obtain ⟨gd, cd, e5, hgdB, hgdl, hcd1, hcd2⟩ := ho5.posB (by omega)
  rw [hDl] at e5 hcd1
  simp only [Value.slice.injEq] at e5
  obtain ⟨rfl, rfl, rfl⟩ := e5
  have HDC : Hid (∀ w', Below w5.heap.size w5 w' → ∀ i, i < L.length → w'.cell? ⟨gd, i, none⟩ = some (.int .i64 (nth D i))) := fun w' h i hi => cell_keep h (ho5.cells' i (by omega))
  have HB5 := Lib.hid hb5
  have kb5 := KB.out _ hb5
  clear ho5 hb5 kb4 hD hDl
  go_wp2_with fail
  refine (implPathOf_any _ L (p : Int) (s : Int) _ (GK.out _ HB5.out) hpI hsI (TK.out _ HB5.out)).mono ?_
  rintro e w6 ⟨n6, a6, c6, rfl, ho6, hb6⟩
  obtain rfl : n6 = (poL L (p : Int) (s : Int)).length := by
    obtain ⟨a3, c3, e3⟩ := ho6.row.slice
    simp only [Value.slice.injEq] at e3
    exact e3.2.1
  have HB6 : Hid (Below w4.heap.size w4 w6) := HB5.out.trans (hb6.mono HB5.out.size)
  have hWP : WayP L D (poL L (p : Int) (s : Int)) p s := by rw [HDE.out]; exact path_facts HG.out hp hs
  have HB56 := Lib.hid hb6
  have HXO : Hid (∀ w', Below w6.heap.size w6 w' → OwnRow 2 w' w5.heap.size (.slice a6 (poL L (p : Int) (s : Int)).length c6) (poL L (p : Int) (s : Int))) := fun w' h => ho6.keep h
  have kb6 := KB.out _ HB6.out
  have hfp := HDC.out _ hb6 p hp
  have hlen := hWP.len
  have hl16 := hWP.le
  obtain ⟨X, hX⟩ : ∃ X, X = poL L (p : Int) (s : Int) := ⟨_, rfl⟩
  rw [← hX] at hWP HXO hlen hl16 ⊢
  have HXE := Lib.hid hX
  have HWP := Lib.hid hWP
  have hfd : nth D p = (X.length : Int) - 1 := by omega
  rw [hfd] at hfp
  have hwx : IntKind.i64.wrap ((X.length : Int) - 1 + 1) = (X.length : Int) := by rw [show (X.length : Int) - 1 + 1 = (X.length : Int) from by omega]; exact IntWalk.i64_in _ (by omega)
  have qL : ((L.length : Int) != (L.length : Int)) = false := by simp
  have qX : ((X.length : Int) != (X.length : Int)) = false := by simp
  have hxx : (X.length : Int) - 1 + 1 = (X.length : Int) := by omega
  clear ho6 hb6 hX hWP hfd hlen kb5
  go_wp2_with fail
  refine (specPathOf_any _ L (p : Int) (s : Int) _ (GK.out _ HB6.out) hpI hsI).mono ?_
  rintro e w7 ⟨n7, a7, c7, rfl, ho7, hb7⟩
  rw [← HXE.out] at ho7
  have HB7 : Hid (Below w6.heap.size w6 w7) := hb7
  have HO7 := Lib.hid ho7.row
  clear ho7 hb7 hfp kb6
  go_wp2_with fail
  refine (likeInts_any _ _ _ _ _ (HXO.out _ HB7.out).row HO7.out).mono ?_
  rintro e w8 ⟨rfl, hd8⟩
  rw [decide_eq_true rfl]
  have HB8 : Hid (Below w6.heap.size w6 w8) := HB7.out.trans (hd8.below _)
  clear hd8 HO7 HB7
  go_wp2_with fail
  -- the steps
  go_loopw [10] (fun i wr => ∃ k : Nat, (k = 0 ∨ k < X.length) ∧ i = .int .i64 k ∧ Below w6.heap.size w6 wr) (fun i _ => X.length + 1 - (intOf i).toNat)
  case atStart => exact ⟨0, .inl rfl, rfl, HB8.out⟩
  case round =>
    clear HB8
    obtain ⟨k, hk, rfl, hb⟩ := hrel
    have hk16 : k ≤ 16 := by omega
    have HB := Lib.hid hb
    have HBr : Hid (Below w4.heap.size w4 wr) := HB6.out.trans (hb.mono HB6.out.size)
    have kb := KB.out _ HBr.out
    have hwk : IntKind.i64.wrap ((k : Int) + 1) = (k : Int) + 1 := IntWalk.i64_in _ (by omega)
    by_cases hlt : k + 1 < X.length
    · obtain ⟨x, y, dd, hx, hy, hxn, hyn, heb, hdx, hdy, hd0, hd16⟩ := HWP.out.step k hlt
      obtain ⟨gx, cx, ex, hgxB, hgxl, hcx1, hcx2⟩ := (HXO.out _ hb).posB (by omega)
      simp only [Value.slice.injEq, true_and] at ex
      obtain ⟨rfl, rfl⟩ := ex
      have hcx := (HXO.out _ hb).cells' k (by omega)
      have hcy := (HXO.out _ hb).cells' (k + 1) hlt
      rw [hx] at hcx
      rw [hy] at hcy
      have hB5r : Below w5.heap.size w5 wr := HB56.out.trans (hb.mono HB56.out.size)
      have hfx := HDC.out _ hB5r x hxn
      have hfy := HDC.out _ hB5r y hyn
      rw [hdx] at hfx
      rw [hdy] at hfy
      have hwd : IntKind.i64.wrap (dd + 1) = dd + 1 := IntWalk.i64_in _ (by omega)
      have qd : ((dd + 1) != (dd + 1)) = false := by simp
      have HEB := Lib.hid heb
      have hltI : (k : Int) + 1 < (X.length : Int) := by omega
      clear hx hy heb hdx hdy hb hB5r
      go_wp2_with fail
      have kl := fun x : Later wr => x.cell kb
      have kl1 := fun x : Later wr => x.cell hcx
      have kl2 := fun x : Later wr => x.cell hcy
      have kl3 := fun x : Later wr => x.cell hfx
      have kl4 := fun x : Later wr => x.cell hfy
      have hcA : Hid (∀ z : Later wr, Calls Tryd.prog 30 #[.agg #[.slice a2 L.length c2], .int .i64 (x : Int), .int .i64 (y : Int)] z.at fun e w2 => e = .returned (.bool true) ∧ ∃ y : Later wr, w2 = y.at) :=
        fun z => Calls.later ((specEdgeIn_any _ L (x : Int) (y : Int) _ (GK.out _ (HBr.out.trans (z.bel.mono HBr.out.size))) (by unfold I64; omega) (by unfold I64; omega)).mono fun _ _ ⟨h1, h2⟩ => ⟨by rw [h1, HEB.out], h2⟩)
      clear kb hcx hcy hfx hfy
      refine wp_region_later (by kernel_rfl) (by kernel_rfl) ?_
      repeat (go_big_quiet_step ((go_at_call 30; with_reducible exact hcA.out _)))
      refine wpQuiet_nil ?_
      rintro _ ⟨z, rfl⟩
      have HBz : Hid (Below w6.heap.size w6 z.at) := HB.out.trans (z.bel.mono HB.out.size)
      clear kl kl1 kl2 kl3 kl4 hcA
      go_wp2
      go_roundw
      case rel => exact ⟨k + 1, .inr hlt, by go_num, HBz.out⟩
      case measure => simp [intOf]; omega
    · -- the edges
      have hnl : ¬ ((k : Int) + 1 < (X.length : Int)) := by omega
      clear hb
      go_wp2_with fail
      refine (specEdgesOf_any _ L _ (GK.out _ HBr.out)).mono ?_
      rintro e w9 ⟨n9, a9, c9, rfl, ho9, hb9⟩
      obtain rfl : n9 = (edgesL L).length := by
        obtain ⟨a3, c3, e3⟩ := ho9.grid.slice
        simp only [Value.slice.injEq] at e3
        exact e3.2.1
      have hle : (edgesL L).length ≤ 1048576 := (edgesL_small L).1
      have HB9 : Hid (Below w6.heap.size w6 w9) := HB.out.trans (hb9.mono HB.out.size)
      have HE9 := Lib.hid ho9.grid
      have HEE : Hid (edgesL L = edgesTo L L.length) := by show _ = _; unfold edgesL; rw [if_pos HG.out]
      have hB59 : Below w5.heap.size w5 w9 := HB56.out.trans (HB9.out.mono HB56.out.size)
      have HDC9 : Hid (∀ i, i < L.length → w9.cell? ⟨gd, i, none⟩ = some (.int .i64 (nth D i))) := fun i hi => HDC.out _ hB59 i hi
      clear ho9 hb9 kb hB59
      go_wp2_with fail
      go_loop [12] (fun i => ∃ q : Nat, q ≤ (edgesL L).length ∧ i = .int .i64 q) (fun i => (edgesL L).length - (intOf i).toNat)
      case atStart => exact ⟨0, Nat.zero_le _, rfl⟩
      case round =>
        obtain ⟨q, hq, rfl⟩ := hrel
        by_cases hql : q < (edgesL L).length
        · obtain ⟨b, o, c, A, C, e2, l1, l2, hc⟩ := HE9.out.pos (by omega)
          simp only [Value.slice.injEq, true_and] at e2
          obtain ⟨rfl, rfl⟩ := e2
          have hck := (hc q hql).1
          have hrk := (hc q hql).2
          obtain ⟨x, hxn, y', hyr, hux, he⟩ := (edgesTo_mem L.length (nthR (edgesL L) q)).1 (by rw [← HEE.out]; exact nthR_mem hql)
          have hxr := graph_range HG.out hxn hyr
          obtain ⟨y, rfl⟩ : ∃ y : Nat, y' = (y : Int) := ⟨y'.toNat, by omega⟩
          have hyn : y < L.length := by omega
          rw [he] at hck hrk
          obtain ⟨b2, o2, c2', e3, l3, l4, hc2⟩ := hrk.pos (by simp)
          rw [e3] at hck
          have k0 : w9.cell? ⟨b2, o2, none⟩ = some (.int .i64 (x : Int)) := hc2 0 (by simp)
          have k1 : w9.cell? ⟨b2, o2 + 1, none⟩ = some (.int .i64 (y : Int)) := hc2 1 (by simp)
          have hl2 : ([(x : Int), (y : Int)] : List Int).length = 2 := rfl
          rw [hl2] at hck l3
          have hfx := HDC9.out x hxn
          have hfy := HDC9.out y hyn
          have hnr : nearB L x y = true := (hasB_mem _ _).2 hyr
          have hdn := dOf_near (S := allS L.length) (v := s) (nearB_symm HG.out) ((allS_iff _ _).2 hxn) ((allS_iff _ _).2 hyn) hnr
          have hg1 := dOf_ge (A := nearB L) (S := allS L.length) (v := s) x
          have hg2 := dOf_ge (A := nearB L) (S := allS L.length) (v := s) y
          have hg3 := dOf_lt (A := nearB L) (S := allS L.length) (v := s) (n := L.length) (fun u hu => (allS_iff _ _).1 hu) x
          have hg4 := dOf_lt (A := nearB L) (S := allS L.length) (v := s) (n := L.length) (fun u hu => (allS_iff _ _).1 hu) y
          rw [← distL_nth hxn, ← distL_nth hyn, ← HDE.out] at hdn
          rw [← distL_nth hxn, ← HDE.out] at hg1 hg3
          rw [← distL_nth hyn, ← HDE.out] at hg2 hg4
          obtain ⟨dx, hdx⟩ : ∃ dx, dx = nth D x := ⟨_, rfl⟩
          obtain ⟨dy, hdy⟩ : ∃ dy, dy = nth D y := ⟨_, rfl⟩
          rw [← hdx] at hfx hdn hg1 hg3
          rw [← hdy] at hfy hdn hg2 hg4
          have hw1 : IntKind.i64.wrap (dx - dy) = dx - dy := IntWalk.i64_in _ (by omega)
          have hw2 : IntKind.i64.wrap (dy - dx) = dy - dx := IntWalk.i64_in _ (by omega)
          have hn1 : ¬ (1 < dx - dy) := by omega
          have hn2 : ¬ (1 < dy - dx) := by omega
          clear hc hrk he e3 hc2 hl2 hnr hyr hdx hdy hg3 hg4
          by_cases hx0 : dx < 0
          · have hy0 : dy < 0 := hdn.2.2.1 hx0
            clear hdn
            go_wp2
            go_round
            case rel => exact ⟨q + 1, by omega, by go_num⟩
            case measure => simp [intOf]; omega
          · have hy0 : ¬ dy < 0 := fun h2 => hx0 (hdn.2.2.2 h2)
            clear hdn
            go_wp2
            go_round
            case rel => exact ⟨q + 1, by omega, by go_num⟩
            case measure => simp [intOf]; omega
        · obtain rfl : q = (edgesL L).length := by omega
          have HFIN : Hid (Below w.heap.size w w9) := HBW.out.trans ((HB6.out.trans (HB9.out.mono HB6.out.size)).mono HBW.out.size)
          rcases HWP.out.ends with h0 | ⟨h0, hx0, hxl⟩
          · rw [h0]
            clear h0
            go_wp2
            go_ret
            exact ⟨rfl, HFIN.out⟩
          · obtain ⟨gx, cx, ex, hgxB, hgxl, hcx1, hcx2⟩ := (HXO.out _ HB9.out).posB h0
            simp only [Value.slice.injEq, true_and] at ex
            obtain ⟨rfl, rfl⟩ := ex
            have hcx := (HXO.out _ HB9.out).cells' 0 h0
            have hcy := (HXO.out _ HB9.out).cells' (X.length - 1) (by omega)
            rw [hx0] at hcx
            rw [hxl] at hcy
            obtain ⟨m, hm⟩ : ∃ m, X.length = m + 1 := ⟨X.length - 1, by omega⟩
            rw [hm, Nat.add_sub_cancel] at hcy
            have hm16 : m ≤ 16 := by omega
            have hwm : IntKind.i64.wrap (((m + 1 : Nat) : Int) - 1) = (m : Int) := by rw [show ((m + 1 : Nat) : Int) - 1 = (m : Int) from by omega]; exact IntWalk.i64_in _ (by omega)
            have hne0 : (((m + 1 : Nat) : Int) == 0) = false := by rw [beq_eq_false_iff_ne]; omega
            rw [hm]
            clear hx0 hxl hm
            go_wp2
            go_ret
            exact ⟨rfl, HFIN.out⟩

end Go.Proofs.YtjbfoiolcpigfaaDoor
