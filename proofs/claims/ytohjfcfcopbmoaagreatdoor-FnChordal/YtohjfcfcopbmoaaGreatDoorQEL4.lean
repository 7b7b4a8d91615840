/- The texts EL4, EL5, joined. -/
import Derived.Test.YtohjfcfcopbmoaaGreatDoorQEL1
import Derived.Test.YtohjfcfcopbmoaaGreatDoorQF6
import Derived.Test.YtohjfcfcopbmoaaGreatDoorQC1
import Derived.Test.YtohjfcfcopbmoaaGreatDoorQN4
import Derived.Test.YtohjfcfcopbmoaaGreatDoorQM1
import Derived.Test.YtohjfcfcopbmoaaGreatDoorQD5
import Derived.Deep.RegionHeld3

/- Walks: of each vertex its later neighbours, of the model. -/
namespace Go.Proofs.YtohjfcfcopbmoaaGreatDoor
open Go.RowKit

/-- The later neighbours of those that have gone in the first k rounds. -/
def partA (A : Nat → Nat → Bool) (xs : List Int) (k i j : Nat) : Bool := hasB (xs.take k) (i : Int) && laterA A xs i j
theorem adjL_set {n : Nat} {R R' : Nat → Nat → Bool} {u : Nat} (h : ∀ i, i < n → i ≠ u → ∀ j, j < 16 → R' i j = R i j) : (adjL n R).set u (listM (pm (R' u))) = adjL n R' := by
  apply nthR_ext
  · rw [List.length_set, adjL_len, adjL_len]
  · intro i hi
    rw [List.length_set, adjL_len] at hi
    rw [adjL_nth _ hi]
    by_cases e : u = i
    · subst e
      unfold nthR
      rw [List.getD_eq_getElem?_getD, List.getElem?_set_self (by rw [adjL_len]; exact hi)]; rfl
    · rw [nthR_set_ne _ e, adjL_nth _ hi, pm_congr (fun j hj => h i hi (fun e2 => e e2.symm) j hj)]
theorem part_zero (n : Nat) (A : Nat → Nat → Bool) (xs : List Int) (M : Nat → Nat) : partL n M 0 = adjL n (partA A xs 0) := by
  apply nthR_ext
  · rw [partL_len, adjL_len]
  · intro i hi
    rw [partL_len] at hi
    rw [partL_nth M 0 hi, if_neg (by omega), adjL_nth _ hi]
    have : partA A xs 0 i = fun _ => false := by
      funext j
      unfold partA
      have : hasB (xs.take 0) (i : Int) = false := hasB_false.2 (by simp)
      rw [this]; rfl
    rw [this, pm_false, listM_zero]
theorem part_next {A : Nat → Nat → Bool} {n : Nat} {xs : List Int} {k u : Nat} (hk : k < xs.length) (e : nth xs k = (u : Int)) (hO : OrdP xs n) :
    (adjL n (partA A xs k)).set u (listM (pm (laterA A xs u))) = adjL n (partA A xs (k + 1)) := by
  have hu : partA A xs (k + 1) u = laterA A xs u := by
    funext j
    unfold partA
    have : hasB (xs.take (k + 1)) (u : Int) = true := (hasB_mem _ _).2 (by rw [take_snoc hk, e]; simp)
    rw [this]; rfl
  rw [← hu]
  refine adjL_set (fun i _ hi j _ => ?_)
  unfold partA
  rw [take_snoc hk, e, hasB_snoc]
  have : ((i : Int) == (u : Int)) = false := by rw [beq_eq_false_iff_ne]; omega
  rw [this, Bool.or_false]
theorem laterPart_all {A : Nat → Nat → Bool} {n : Nat} {xs : List Int} (hO : OrdP xs n) : adjL n (partA A xs xs.length) = adjL n (laterA A xs) := by
  refine adjL_congr (fun i hi j _ => ?_)
  unfold partA
  rw [List.take_length, (hasB_mem _ _).2 (ordP_mem hO hi)]; rfl

/-- At work: the filled graph is done, who has gone, the rows so far. -/
structure LaterW (wF : World) (gb gr n : Nat) (R : Nat → Nat → Bool) (p : Nat → Bool) (w : World) : Prop where
  gone : w.rowIs gb 4 n (fun i => .bool (p i))
  rows : OwnGrid 2 33 w gr (.slice (some ⟨gr, 0, none⟩) n n) (adjL n R)
  bel : Below wF.heap.size wF w
theorem LaterW.keep {wF : World} {gb gr n : Nat} {R : Nat → Nat → Bool} {p : Nat → Bool} {w w' : World} (h : LaterW wF gb gr n R p w) (hb : Below w.heap.size w w') : LaterW wF gb gr n R p w' :=
  ⟨rowIs_below h.gone hb, h.rows.keep hb, h.bel.trans (hb.mono h.bel.size)⟩
theorem LaterW.flag {wF : World} {gb gr n : Nat} {R : Nat → Nat → Bool} {p : Nat → Bool} {w : World} (h : LaterW wF gb gr n R p w) (v : Nat) (hg : gb < gr) (hF : wF.heap.size ≤ gb) : LaterW wF gb gr n R (fun i => if i = v then true else p i) (w.setCell ⟨gb, v, none⟩ (.bool true)) := by
  refine ⟨(h.gone.set v (.bool true)).congr (fun i _ => ?_), h.rows.setBelow hg _, h.bel.setCell hF _⟩
  by_cases e : i = v
  · rw [if_pos e, if_pos e]
  · rw [if_neg e, if_neg e]
theorem LaterW.congr {wF : World} {gb gr n : Nat} {R R' : Nat → Nat → Bool} {p p' : Nat → Bool} {w : World} (h : LaterW wF gb gr n R p w) (e : adjL n R = adjL n R') (e2 : ∀ i, i < n → p i = p' i) : LaterW wF gb gr n R' p' w :=
  ⟨h.gone.congr (fun i hi => by rw [e2 i hi]), by rw [← e]; exact h.rows, h.bel⟩

theorem later_put {wF wd w8 : World} {gb gr n u m : Nat} {R R' : Nat → Nat → Bool} {p : Nat → Bool} {q : Nat → Bool} {a : Option Addr} {c : Nat} (h : LaterW wF gb gr n R p wd) (h8 : LaterW wF gb gr n R p w8) (hb : Below wd.heap.size wd w8) (ho : OwnRow 2 w8 wd.heap.size (.slice a m c) (listM (pm q)))
    (e : (adjL n R).set u (listM (pm q)) = adjL n R') (hu : u < n) (hz : gr ≤ wd.heap.size) (hz2 : gb < gr ∧ wF.heap.size ≤ gr) : LaterW wF gb gr n R' p (w8.setCell ⟨gr, u, none⟩ (.slice a m c)) := by
  have hr := OwnGrid.setRow (w := wd) (w' := w8) (by decide) h.rows hb (by rw [adjL_len]; exact hu) (ho.mono hz) (fun k hk => Or.inl (ho.lt k hk).1)
  rw [e] at hr
  exact ⟨h8.gone.setOther (a := ⟨gr, u, none⟩) (by simp; omega) _, hr, h8.bel.setCell hz2.2 _⟩

set_option maxHeartbeats 4000000 in
set_option maxRecDepth 100000 in
theorem l7Later_any (v v1 : Value) (L : List (List Int)) (xs : List Int) (w : World) (h : GridAt w v L) (h1 : RowAt w v1 xs) (hG : GraphP L) (hO : OrdP xs L.length) :
    Calls Tryz.prog 123 #[.agg #[v], v1] w (GaveGrid w (adjL L.length (laterA (adjB L) xs))) := by
  have hz := hG.1
  have hlen := hO.1
  obtain ⟨a0, c0, rfl⟩ := h.slice
  obtain ⟨bx, ox, cx, rfl, lx1, lx2, hcx⟩ := h1.pos (by omega)
  have hrel0 := adjB_rel hG
  have HGP := Lib.hid hG
  have HOP := Lib.hid hO
  have HREL := Lib.hid hrel0
  have HFR : Hid (RelP L.length (fillX (adjB L) xs)) := fillX_rel hrel0 xs
  have HG : Hid (∀ W, Below w.heap.size w W → GridAt W (.slice a0 L.length c0) L) := fun W hb => h.keep hb
  have HR : Hid (∀ W, Below w.heap.size w W → RowAt W (.slice (some ⟨bx, ox, none⟩) xs.length cx) xs) := fun W hb => h1.keep hb
  have HCX : Hid (∀ W, Below w.heap.size w W → ∀ k, k < xs.length → W.cell? ⟨bx, ox + k, none⟩ = some (.int .i64 (nth xs k))) := fun W hb k hk => cell_keep hb (hcx k hk)
  have HV : Hid (∀ k, k < xs.length → ∃ u : Nat, u < L.length ∧ nth xs k = (u : Int)) := fun k hk => ordP_at hO hk
  have hb1 : Below w.heap.size w (w.alloc (.cells #[.slice a0 L.length c0] 26)) := (Below.refl _ _).alloc (Nat.le_refl _) _
  have HB1 := Lib.hid hb1
  have HARG : Hid (BoxAt (w.alloc (.cells #[.slice a0 L.length c0] 26)) w.heap.size (.slice a0 L.length c0)) := BoxAt.new _ _ _
  have HLEN := Lib.hid hlen
  have hx16 : xs.length ≤ 16 := by omega
  clear h h1 hG hcx hrel0 hb1 hO hlen
  go_enter Tryz.func123, Tryz.ntmps123
  go_wp2_with fail
  refine (l7Fill_any _ _ L xs _ (HG.out _ HB1.out) (HR.out _ HB1.out) HGP.out HOP.out).mono ?_
  rintro e w3 ⟨n3, a3, c3, rfl, ho3, hb3⟩
  obtain ⟨g, cap, eg, hBg, hgs, _⟩ := ho3.place (by rw [adjL_len]; omega)
  simp only [adjL_len, Value.slice.injEq] at eg
  obtain ⟨rfl, rfl, rfl⟩ := eg
  have hb4 : Below w3.heap.size w3 (w3.alloc (.cells #[.slice (some ⟨g, 0, none⟩) L.length c3] 26)) := (Below.refl _ _).alloc (Nat.le_refl _) _
  have HB4 : Hid (Below w.heap.size w (w3.alloc (.cells #[.slice (some ⟨g, 0, none⟩) L.length c3] 26))) := (HB1.out.trans (hb3.mono (by simp))).alloc (by have := hb3.size; simp at this; omega) _
  have HGF4 : Hid (GridAt (w3.alloc (.cells #[.slice (some ⟨g, 0, none⟩) L.length c3] 26)) (.slice (some ⟨g, 0, none⟩) L.length c3) (adjL L.length (fillX (adjB L) xs))) := ho3.grid.keep hb4
  have HBX4 : Hid (BoxAt (w3.alloc (.cells #[.slice (some ⟨g, 0, none⟩) L.length c3] 26)) w3.heap.size (.slice (some ⟨g, 0, none⟩) L.length c3)) := BoxAt.new _ _ _
  have HA4 : Hid (BoxAt (w3.alloc (.cells #[.slice (some ⟨g, 0, none⟩) L.length c3] 26)) w.heap.size (.slice a0 L.length c0)) := (HARG.out.keep hb3).keep hb4
  have k4 := HA4.out.1
  clear ho3 hb3 hb4
  go_wp2_with fail
  obtain ⟨wF, hwF⟩ : ∃ wF, wF = w3.alloc (.cells #[.slice (some ⟨g, 0, none⟩) L.length c3] 26) := ⟨_, rfl⟩
  have hszF : wF.heap.size = w3.heap.size + 1 := by rw [hwF, size_alloc1]
  rw [← hwF] at HB4 HGF4 HBX4 HA4 k4 ⊢
  clear hwF
  refine (l1Size_any _ L _ (HG.out _ HB4.out)).mono ?_
  rintro e w5 ⟨rfl, hb5⟩
  have hmk := run_make_row' (P := Tryz.prog) 156 4 (.bool false) 1 Tryz.underlying156 Tryz.infoBo rfl .i64 .i64 L.length (by omega) (by omega)
  have hrm := World.rowIs_made w5 (.bool false) L.length 4
  have hb6 : Below wF.heap.size wF (w5.alloc (.cells (madeCells #[.bool false] L.length) 4)) := hb5.alloc hb5.size _
  have HB6 := Lib.hid hb6
  have HRM := Lib.hid hrm
  have hz5 : wF.heap.size ≤ w5.heap.size := hb5.size
  have k5 := (HA4.out.keep hb6).1
  clear hb5 k4 hrm hb6
  go_wp2_with fail
  refine (l1Size_any _ L _ (HG.out _ (HB4.out.trans (HB6.out.mono HB4.out.size)))).mono ?_
  rintro e w6 ⟨rfl, hb6⟩
  have hmk2 := run_make_row' (P := Tryz.prog) 24 33 (.slice none 0 0) 24 Tryz.underlying24 Tryz.infoR rfl .i64 .i64 L.length (by omega) (by omega)
  have hog := own_made w6 L.length (fun _ => 0) hz.2
  have hz6 : w5.heap.size + 1 ≤ w6.heap.size := by have := hb6.size; rw [size_alloc1] at this; exact this
  have hb7 : Below w6.heap.size w6 (w6.alloc (.cells (madeCells #[.slice none 0 0] L.length) 33)) := (Below.refl _ _).alloc (Nat.le_refl _) _
  have HW0 : Hid (LaterW wF w5.heap.size w6.heap.size L.length (partA (adjB L) xs 0) (fun i => hasB (xs.take 0) (i : Int)) (w6.alloc (.cells (madeCells #[.slice none 0 0] L.length) 33))) := by
    refine ⟨(rowIs_below (rowIs_below HRM.out hb6) hb7).congr (fun i _ => ?_), by rw [← part_zero L.length (adjB L) xs (fun _ => 0)]; exact hog, (HB6.out.trans (hb6.mono (by rw [size_alloc1]; omega))).trans (hb7.mono (by omega))⟩
    have : hasB (xs.take 0) (i : Int) = false := hasB_false.2 (by simp)
    rw [this]
  clear hb6 hog hb7 k5 HRM
  go_wp2_with fail
  go_loopw [8] (fun i wr => ∃ k : Nat, k ≤ xs.length ∧ i = .int .i64 k ∧ LaterW wF w5.heap.size w6.heap.size L.length (partA (adjB L) xs k) (fun i => hasB (xs.take k) (i : Int)) wr) (fun i _ => xs.length - (intOf i).toNat)
  case atStart => exact ⟨0, Nat.zero_le _, rfl, HW0.out⟩
  case round =>
    obtain ⟨k, hk, rfl, hw⟩ := hrel
    by_cases hlt : k < xs.length
    · obtain ⟨u, hu, eu⟩ := HV.out k hlt
      have HBW : Hid (∀ W, Below wF.heap.size wF W → Below w.heap.size w W) := fun W hb => HB4.out.trans (hb.mono HB4.out.size)
      have HKX : Hid (∀ W, Below wF.heap.size wF W → W.cell? ⟨bx, ox + k, none⟩ = some (.int .i64 (u : Int))) := fun W hb => by
        have := HCX.out W (HBW.out W hb) k hlt
        rw [eu] at this; exact this
      have HKF : Hid (∀ W, Below wF.heap.size wF W → W.cell? ⟨w3.heap.size, 0, none⟩ = some (.slice (some ⟨g, 0, none⟩) L.length c3)) := fun W hb => (HBX4.out.keep hb).1
      have hck := HKX.out _ hw.bel
      have kg := hw.gone.cell hu
      have kf := hw.gone.frozen u
      have huI : (u : Int) < (L.length : Int) := by omega
      have HT : Hid (xs.take (k + 1) = xs.take k ++ [(u : Int)]) := by show _ = _; rw [take_snoc hlt, eu]
      have HNX : Hid ((adjL L.length (partA (adjB L) xs k)).set u (listM (pm (laterA (adjB L) xs u))) = adjL L.length (partA (adjB L) xs (k + 1))) := part_next hlt eu HOP.out
      have HLT : Hid (∀ j, laterA (adjB L) xs u j = leftB (fillX (adjB L) xs) (xs.take (k + 1)) u j) := fun j => later_full HREL.out HOP.out hlt eu j
      have HW4 : Hid (LaterW wF w5.heap.size w6.heap.size L.length (partA (adjB L) xs k) (fun i => hasB (xs.take (k + 1)) (i : Int)) (wr.setCell ⟨w5.heap.size, u, none⟩ (.bool true))) := by
        refine (hw.flag u (by omega) (by omega)).congr rfl (fun i _ => ?_)
        rw [HT.out]; exact hasB_more
      have HZ6 : Hid (w5.heap.size < w6.heap.size ∧ wF.heap.size ≤ w6.heap.size) := by show _ ∧ _; omega
      have HLT6 : Hid (w6.heap.size ≤ wr.heap.size) := by
        obtain ⟨cur, hcur⟩ := hw.rows.blkT
        exact Nat.le_of_lt (Array.getElem?_eq_some_iff.1 hcur).1
      clear hw eu
      go_wp2_with fail
      have HLT7 : Hid (w6.heap.size ≤ (wr.setCell ⟨w5.heap.size, u, none⟩ (.bool true)).heap.size) := by show _ ≤ _; rw [size_setCell1]; exact HLT6.out
      clear HLT6
      clear kg kf hck
      generalize wr.setCell ⟨w5.heap.size, u, none⟩ (.bool true) = w7 at HW4 HLT7 ⊢
      have k7 := HKF.out _ HW4.out.bel
      have x7 := HKX.out _ HW4.out.bel
      have HWD := Lib.hid (HW4.out.keep (Below.refl _ _).drew)
      have HGD : Hid (GridAt w7.drew (.slice (some ⟨g, 0, none⟩) L.length c3) (adjL L.length (fillX (adjB L) xs))) := HGF4.out.keep HWD.out.bel
      go_region_law (first
        | (go_simp; go_at_call 153; have hcall := l7Left_any (.slice (some ⟨g, 0, none⟩) L.length c3) (adjL L.length (fillX (adjB L) xs)) u w5.heap.size (fun i => hasB (xs.take (k + 1)) (i : Int)) w7.drew HGD.out (adj_setP HFR.out hz hu) (by rw [adjL_len]; exact hz.2) (by rw [adjL_len]; exact hu) (by rw [adjL_len]; exact HWD.out.gone); rw [adjL_len, left_row hu] at hcall; refine hcall.mono ?_; clear hcall; rintro e w8 ⟨n8, a8, c8, rfl, ho8, hb8⟩; have HW8 := Lib.hid (HWD.out.keep hb8); have k8 := HKF.out _ HW8.out.bel; have x8 := HKX.out _ HW8.out.bel; have HB8 : Hid (Below w7.heap.size w7.drew w8) := hb8; have HO8 : Hid (OwnRow 2 w8 w7.heap.size (.slice a8 n8 c8) (listM (pm (laterA (adjB L) xs u)))) := (by show OwnRow _ _ _ _ _; rw [show laterA (adjB L) xs u = leftB (fillX (adjB L) xs) (xs.take (k + 1)) u from funext HLT.out]; exact ho8); obtain ⟨g8, cap8, eo8, _, _, hcell8⟩ := HW8.out.rows.place (by rw [adjL_len]; omega); simp only [adjL_len, Value.slice.injEq, Option.some.injEq, Addr.mk.injEq, and_true, true_and] at eo8; have eo1 := eo8.1; clear eo8; rw [← eo1] at hcell8; clear eo1; obtain ⟨_, _, _, ko8, fo8, _⟩ := hcell8 u (by rw [adjL_len]; exact hu); have HEND : Hid (LaterW wF w5.heap.size w6.heap.size L.length (partA (adjB L) xs (k + 1)) (fun i => hasB (xs.take (k + 1)) (i : Int)) (w8.setCell ⟨w6.heap.size, u, none⟩ (.slice a8 n8 c8))) := later_put HWD.out HW8.out HB8.out HO8.out HNX.out hu HLT7.out HZ6.out; clear ho8 hb8 hcell8))
      all_goals (
        clear k8 x8 k7 x7
        go_wp2
        go_roundw
        case rel =>
          refine ⟨k + 1, by omega, by go_num, HEND.out⟩
        case measure => simp [intOf]; omega)
    · obtain rfl : k = xs.length := by omega
      have HW := Lib.hid hw
      clear hw
      go_wp2
      go_ret
      refine ⟨_, _, _, rfl, ?_, HB4.out.trans (HW.out.bel.mono HB4.out.size)⟩
      have ho := HW.out.rows
      rw [laterPart_all HOP.out] at ho
      exact ho.mono (by have := HB4.out.size; omega)

end Go.Proofs.YtohjfcfcopbmoaaGreatDoor

/- Walks: FillOf, LaterOf, OrderWidth, FillMany, PerfectIn of the model. -/
namespace Go.Proofs.YtohjfcfcopbmoaaGreatDoor
open Go.RowKit

/-- What they answer. -/
def fillL (L : List (List Int)) (xs : List Int) : List (List Int) := if orderB L xs = true then adjL L.length (fillX (adjB L) xs) else []
def laterL (L : List (List Int)) (xs : List Int) : List (List Int) := if orderB L xs = true then adjL L.length (laterA (adjB L) xs) else []
def widthI (L : List (List Int)) (xs : List Int) : Int := if orderB L xs = true then (widthX (adjB L) xs L.length : Int) else -1
def moreI (L : List (List Int)) (xs : List Int) : Int := if orderB L xs = true then manyN (adjL L.length (fillX (adjB L) xs)) - manyN L else -1
def perfB (L : List (List Int)) (xs : List Int) : Bool := moreI L xs == 0
theorem fillL_no {L : List (List Int)} {xs : List Int} (h : orderB L xs = false) : fillL L xs = [] := by unfold fillL; rw [h]; rfl
theorem laterL_no {L : List (List Int)} {xs : List Int} (h : orderB L xs = false) : laterL L xs = [] := by unfold laterL; rw [h]; rfl
theorem fillL_small (L : List (List Int)) (xs : List Int) : Small (fillL L xs) := by
  unfold fillL
  split
  · rename_i h; exact adjL_small _ _ (orderB_yes h).1.1.2
  · exact ⟨by simp, fun i hi => absurd hi (by simp)⟩
theorem laterL_small (L : List (List Int)) (xs : List Int) : Small (laterL L xs) := by
  unfold laterL
  split
  · rename_i h; exact adjL_small _ _ (orderB_yes h).1.1.2
  · exact ⟨by simp, fun i hi => absurd hi (by simp)⟩
theorem many_le {L : List (List Int)} : 0 ≤ manyN L ∧ manyN L ≤ 1048576 := by
  have := (edgesL_small L).1
  unfold manyN
  omega

set_option maxHeartbeats 1600000 in
theorem specFillOf_any (v v1 : Value) (L : List (List Int)) (xs : List Int) (w : World) (h : GridAt w v L) (h1 : RowAt w v1 xs) : Calls Tryz.prog 182 #[.agg #[v], v1] w (GaveGB w (fillL L xs) (orderB L xs)) := by
  obtain ⟨a0, c0, rfl⟩ := h.slice
  have T0 := Lib.hid (Two.start w (.slice a0 L.length c0))
  have HGK : Hid (∀ w', Below w.heap.size w w' → GridAt w' (.slice a0 L.length c0) L) := fun w' hb => h.keep hb
  have HRK : Hid (∀ w', Below w.heap.size w w' → RowAt w' v1 xs) := fun w' hb => h1.keep hb
  clear h h1
  go_enter Tryz.func182, Tryz.ntmps182
  go_wp2_with fail
  refine (specOrderOk_any _ _ L xs _ (HGK.out _ T0.out.bel) (HRK.out _ T0.out.bel)).mono ?_
  rintro e w1 ⟨rfl, hb1⟩
  have T1 := Lib.hid (T0.out.keep hb1)
  clear hb1 T0
  by_cases hok : orderB L xs = true
  · obtain ⟨hG, hO, _, _⟩ := orderB_yes hok
    have HI := Lib.hid hok
    have HF : Hid (fillL L xs = adjL L.length (fillX (adjB L) xs)) := by show _ = _; unfold fillL; rw [hok]; rfl
    have HG := Lib.hid hG
    have HO := Lib.hid hO
    have kb1 := T1.out.arg.1
    rw [hok]
    clear hok hG hO
    go_wp2_with fail
    refine (l7Fill_any _ _ L xs _ (HGK.out _ T1.out.bel) (HRK.out _ T1.out.bel) HG.out HO.out).mono ?_
    rintro e w2 ⟨n2, a2, c2, rfl, ho2, hb2⟩
    have T2 := Lib.hid (T1.out.keep hb2)
    have HO2 := Lib.hid ho2
    have kr := T2.out.res.1
    have kf := T2.out.res.2
    clear ho2 hb2 kb1
    go_wp2
    refine bodyPost_ret (v := .tuple #[.agg #[.slice a2 n2 c2], .bool true]) (by simp [results, Tryz.results182, go_sem, T2.out.q0]) rfl (T2.out.yes (B := w1.heap.size) ?_ T1.out.lt HI.out)
    rw [HF.out]; exact HO2.out
  · have hok' : orderB L xs = false := by simpa using hok
    have HI := Lib.hid hok'
    have kr := T1.out.res.1
    have kf := T1.out.res.2
    rw [hok']
    clear hok hok'
    go_wp2
    exact bodyPost_ret (v := .tuple #[.agg #[.slice none 0 0], .bool false]) (by simp [results, Tryz.results182, go_sem, T1.out.q0]) rfl (T1.out.no (fillL_no HI.out) HI.out)

theorem l1Max_any (x y : Int) (w : World) : Calls Tryz.prog 124 #[.int .i64 x, .int .i64 y] w fun e w' => e = .returned (.int .i64 (max x y)) ∧ w = w' := by
  by_cases h : x > y
  · have HM : Hid (max x y = x) := by show _ = _; omega
    go_enter Tryz.func124, Tryz.ntmps124
    go_wp2
    go_ret
    exact ⟨ret_int HM.out.symm, rfl⟩
  · have HM : Hid (max x y = y) := by show _ = _; omega
    go_enter Tryz.func124, Tryz.ntmps124
    go_wp2
    go_ret
    exact ⟨ret_int HM.out.symm, rfl⟩

theorem listM_szB (p : Nat → Bool) : (listM (pm p)).length = szB p := by
  have h := sum_listM (pm p) (fun _ => true)
  have e : sumTo (fun _ => if true = true then 1 else 0) (listM (pm p)).length = (listM (pm p)).length := by
    generalize (listM (pm p)).length = n
    induction n with
    | zero => rfl
    | succ n ih => rw [sumTo, ih]; rfl
  rw [e] at h
  rw [← h, szB_sum]
  refine sumTo_congr (fun j hj => ?_)
  rw [pm_bit]; simp [hj]
theorem later_size (A : Nat → Nat → Bool) (n : Nat) {i : Nat} (hi : i < n) : (nthR (adjL n A) i).length = szB (A i) := by
  rw [adjL_nth _ hi, listM_szB]

set_option maxHeartbeats 1600000 in
set_option maxRecDepth 100000 in
theorem specOrderWidth_any (v v1 : Value) (L : List (List Int)) (xs : List Int) (w : World) (h : GridAt w v L) (h1 : RowAt w v1 xs) : Calls Tryz.prog 42 #[.agg #[v], v1] w fun e w' => e = .returned (.int .i64 (widthI L xs)) ∧ Below w.heap.size w w' := by
  obtain ⟨a0, c0, rfl⟩ := h.slice
  have hb0 : Below w.heap.size w (w.alloc (.cells #[.slice a0 L.length c0] 26)) := (Below.refl _ _).alloc (Nat.le_refl _) _
  have hx0 : BoxAt (w.alloc (.cells #[.slice a0 L.length c0] 26)) w.heap.size (.slice a0 L.length c0) := BoxAt.new _ _ _
  have HGK : Hid (∀ w', Below w.heap.size w w' → GridAt w' (.slice a0 L.length c0) L) := fun w' hb => h.keep hb
  have HRK : Hid (∀ w', Below w.heap.size w w' → RowAt w' v1 xs) := fun w' hb => h1.keep hb
  have HB0 := Lib.hid hb0
  have HX0 := Lib.hid hx0
  clear h h1 hb0 hx0
  go_enter Tryz.func42, Tryz.ntmps42
  go_wp2_with fail
  refine (specOrderOk_any _ _ L xs _ (HGK.out _ HB0.out) (HRK.out _ HB0.out)).mono ?_
  rintro e w1 ⟨rfl, hb1⟩
  have HB1 : Hid (Below w.heap.size w w1) := HB0.out.trans (hb1.mono HB0.out.size)
  have HX1 := Lib.hid (HX0.out.keep hb1)
  clear hb1
  by_cases hok : orderB L xs = true
  · obtain ⟨hG, hO, _, _⟩ := orderB_yes hok
    have hz := hG.1
    have HF : Hid (widthI L xs = (maxTo (fun v => szB (laterA (adjB L) xs v)) L.length : Int)) := by show _ = _; unfold widthI; rw [hok]; rfl
    have HG := Lib.hid hG
    have HO := Lib.hid hO
    have kb1 := HX1.out.1
    rw [hok]
    clear hok hG hO
    go_wp2_with fail
    refine (l7Later_any _ _ L xs _ (HGK.out _ HB1.out) (HRK.out _ HB1.out) HG.out HO.out).mono ?_
    rintro e w2 ⟨n2, a2, c2, rfl, ho2, hb2⟩
    have HB2 : Hid (Below w.heap.size w w2) := HB1.out.trans (hb2.mono HB1.out.size)
    obtain ⟨A, C, hcell⟩ : ∃ (A : Nat → Option Addr) (C : Nat → Nat), ∃ b o, a2 = some ⟨b, o, none⟩ ∧ n2 = L.length ∧ ∀ i, i < L.length → w2.cell? ⟨b, o + i, none⟩ = some (.slice (A i) (szB (laterA (adjB L) xs i)) (C i)) := by
      obtain ⟨b, o, c, A, C, e, _, _, hc⟩ := ho2.grid.pos (by rw [adjL_len]; omega)
      simp only [adjL_len, Value.slice.injEq] at e
      obtain ⟨rfl, rfl, rfl⟩ := e
      refine ⟨A, C, b, o, rfl, rfl, fun i hi => ?_⟩
      have := (hc i (by rw [adjL_len]; exact hi)).1
      rw [later_size _ _ hi] at this
      exact this
    obtain ⟨b, o, rfl, rfl, hc⟩ := hcell
    have HC := Lib.hid hc
    clear ho2 hb2 kb1 hc
    go_wp2_with fail
    go_loopw [6, 7] (fun m i wr => ∃ k : Nat, k ≤ L.length ∧ i = .int .i64 k ∧ m = .int .i64 ((maxTo (fun v => szB (laterA (adjB L) xs v)) k : Nat) : Int) ∧ wr = w2) (fun _ i _ => L.length - (intOf i).toNat)
    case atStart => exact ⟨0, Nat.zero_le _, rfl, rfl, rfl⟩
    case round =>
      obtain ⟨k, hk, rfl, rfl, rfl⟩ := hrel
      by_cases hlt : k < L.length
      · have kc := HC.out k hlt
        have hs : szB (laterA (adjB L) xs k) ≤ 16 := szB_le _
        have HS : Hid (maxTo (fun v => szB (laterA (adjB L) xs v)) (k + 1) = max (maxTo (fun v => szB (laterA (adjB L) xs v)) k) (szB (laterA (adjB L) xs k))) := rfl
        obtain ⟨s, hs2⟩ : ∃ s, s = szB (laterA (adjB L) xs k) := ⟨_, rfl⟩
        obtain ⟨m, hm2⟩ : ∃ m, m = maxTo (fun v => szB (laterA (adjB L) xs v)) k := ⟨_, rfl⟩
        rw [← hs2, ← hm2] at HS
        rw [← hs2] at kc hs
        rw [← hm2]
        clear hs2 hm2
        go_wp2_with fail
        refine (l1Max_any _ _ _).mono ?_
        rintro e w' ⟨rfl, rfl⟩
        go_wp2
        go_roundw
        case rel => exact ⟨k + 1, by omega, by go_num, by rw [HS.out]; congr 1; omega, by first | rfl | trivial⟩
        case measure => simp [intOf]; omega
      · obtain rfl : k = L.length := by omega
        go_wp2
        go_ret
        exact ⟨ret_int HF.out.symm, HB2.out⟩
  · have hok' : orderB L xs = false := by simpa using hok
    have HI : Hid (widthI L xs = -1) := by show _ = _; unfold widthI; rw [hok']; rfl
    rw [hok']
    clear hok hok'
    go_wp2
    go_ret
    exact ⟨ret_int HI.out.symm, HB1.out⟩

set_option maxHeartbeats 1600000 in
set_option maxRecDepth 100000 in
theorem specFillMany_any (v v1 : Value) (L : List (List Int)) (xs : List Int) (w : World) (h : GridAt w v L) (h1 : RowAt w v1 xs) : Calls Tryz.prog 105 #[.agg #[v], v1] w fun e w' => e = .returned (.int .i64 (moreI L xs)) ∧ Below w.heap.size w w' := by
  obtain ⟨a0, c0, rfl⟩ := h.slice
  have hb0 : Below w.heap.size w (w.alloc (.cells #[.slice a0 L.length c0] 26)) := (Below.refl _ _).alloc (Nat.le_refl _) _
  have hx0 : BoxAt (w.alloc (.cells #[.slice a0 L.length c0] 26)) w.heap.size (.slice a0 L.length c0) := BoxAt.new _ _ _
  have HGK : Hid (∀ w', Below w.heap.size w w' → GridAt w' (.slice a0 L.length c0) L) := fun w' hb => h.keep hb
  have HRK : Hid (∀ w', Below w.heap.size w w' → RowAt w' v1 xs) := fun w' hb => h1.keep hb
  have HB0 := Lib.hid hb0
  have HX0 := Lib.hid hx0
  clear h h1 hb0 hx0
  go_enter Tryz.func105, Tryz.ntmps105
  go_wp2_with fail
  refine (specOrderOk_any _ _ L xs _ (HGK.out _ HB0.out) (HRK.out _ HB0.out)).mono ?_
  rintro e w1 ⟨rfl, hb1⟩
  have HB1 : Hid (Below w.heap.size w w1) := HB0.out.trans (hb1.mono HB0.out.size)
  have HX1 := Lib.hid (HX0.out.keep hb1)
  clear hb1
  by_cases hok : orderB L xs = true
  · obtain ⟨hG, hO, _, _⟩ := orderB_yes hok
    have hz := hG.1
    have HF : Hid (moreI L xs = manyN (adjL L.length (fillX (adjB L) xs)) - manyN L) := by show _ = _; unfold moreI; rw [hok]; rfl
    have HG := Lib.hid hG
    have HO := Lib.hid hO
    have m1 := many_le (L := L)
    have m2 := many_le (L := adjL L.length (fillX (adjB L) xs))
    obtain ⟨q1, hq1⟩ : ∃ q1, q1 = manyN L := ⟨_, rfl⟩
    obtain ⟨q2, hq2⟩ : ∃ q2, q2 = manyN (adjL L.length (fillX (adjB L) xs)) := ⟨_, rfl⟩
    rw [← hq1] at m1 HF
    rw [← hq2] at m2 HF
    have HQ1 := Lib.hid hq1
    have HQ2 := Lib.hid hq2
    have kb1 := HX1.out.1
    have HKB : Hid (∀ W, Below w1.heap.size w1 W → W.cell? ⟨w.heap.size, 0, none⟩ = some (.slice a0 L.length c0)) := fun W hb => (HX1.out.keep hb).1
    have HW : Hid (∀ W, Below w1.heap.size w1 W → Below w.heap.size w W) := fun W hb => HB1.out.trans (hb.mono HB1.out.size)
    have HC : Hid (Below w1.heap.size w1 w1.drew) := (Below.refl _ _).drew
    have kc := HKB.out _ HC.out
    rw [hok]
    clear hok hG hO hq1 hq2
    go_wp2_with fail
    go_region_law (first
      | (go_simp; go_at_call 193; refine (l7Fill_any _ _ L xs _ (HGK.out _ (HW.out _ HC.out)) (HRK.out _ (HW.out _ HC.out)) HG.out HO.out).mono ?_; rintro e w2 ⟨n2, a2, c2, rfl, ho2, hb2⟩; have HD : Hid (Below w1.heap.size w1 w2) := HC.out.trans (hb2.mono HC.out.size); clear HC kc; have HC := Lib.hid HD.out; clear HD; have kc := HKB.out _ HC.out; have HF2 := Lib.hid ho2.grid; clear ho2 hb2)
      | (go_simp; go_at_call 192; (with_reducible refine (specManyEdges_any _ (adjL L.length (fillX (adjB L) xs)) _ HF2.out).mono ?_); rintro e w3 ⟨rfl, hb3⟩; rw [← HQ2.out]; have HD : Hid (Below w1.heap.size w1 w3) := HC.out.trans (hb3.mono HC.out.size); clear HC kc HF2; have HC := Lib.hid HD.out; clear HD; have kc := HKB.out _ HC.out; clear hb3)
      | (go_simp; go_at_call 192; (with_reducible refine (specManyEdges_any _ L _ (HGK.out _ (HW.out _ HC.out))).mono ?_); rintro e w4 ⟨rfl, hb4⟩; rw [← HQ1.out]; have HD : Hid (Below w1.heap.size w1 w4) := HC.out.trans (hb4.mono HC.out.size); clear HC kc; have HC := Lib.hid HD.out; clear HD; have kc := HKB.out _ HC.out; try (have HF3 := Lib.hid (HF2.out.keep hb4); clear HF2; have HF2 := Lib.hid HF3.out; clear HF3); clear hb4))
    all_goals (
      clear kc
      go_wp2
      go_ret
      exact ⟨ret_int (by rw [HF.out]; exact IntWalk.i64_in _ (by omega)), HW.out _ HC.out⟩)
  · have hok' : orderB L xs = false := by simpa using hok
    have HI : Hid (moreI L xs = -1) := by show _ = _; unfold moreI; rw [hok']; rfl
    rw [hok']
    clear hok hok'
    go_wp2
    go_ret
    exact ⟨ret_int HI.out.symm, HB1.out⟩

theorem specPerfectIn_any (v v1 : Value) (L : List (List Int)) (xs : List Int) (w : World) (h : GridAt w v L) (h1 : RowAt w v1 xs) : Calls Tryz.prog 30 #[.agg #[v], v1] w fun e w' => e = .returned (.bool (perfB L xs)) ∧ Below w.heap.size w w' := by
  obtain ⟨a0, c0, rfl⟩ := h.slice
  have HB0 : Hid (Below w.heap.size w (w.alloc (.cells #[.slice a0 L.length c0] 26))) := (Below.refl _ _).alloc (Nat.le_refl _) _
  have hg := h.keep HB0.out
  have hr := h1.keep HB0.out
  clear h h1
  go_enter Tryz.func30, Tryz.ntmps30
  go_wp2_with fail
  refine (specFillMany_any _ _ L xs _ hg hr).mono ?_
  rintro e w1 ⟨rfl, hb1⟩
  have HB1 : Hid (Below w.heap.size w w1) := HB0.out.trans (hb1.mono HB0.out.size)
  have HP : Hid (perfB L xs = (moreI L xs == 0)) := rfl
  clear hb1 hg hr
  go_wp2
  go_ret
  exact ⟨ret_bool HP.out.symm, HB1.out⟩

end Go.Proofs.YtohjfcfcopbmoaaGreatDoor
