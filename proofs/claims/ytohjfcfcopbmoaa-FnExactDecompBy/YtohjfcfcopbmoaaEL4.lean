/- Walks: of each vertex its later neighbours, of the model. -/
import Derived.Test.YtohjfcfcopbmoaaQEL1
import Derived.Test.YtohjfcfcopbmoaaQF6
import Derived.Test.YtohjfcfcopbmoaaQLater
import Derived.Test.YtohjfcfcopbmoaaQN4

namespace Go.Proofs.Ytohjfcfcopbmoaa
open Go.RowKit

/-- The later neighbours of those that have gone in the first k rounds. -/
def partA (A : Nat → Nat → Bool) (xs : List Int) (k i j : Nat) : Bool := hasB (xs.take k) (i : Int) && laterA A xs i j
theorem adjL_set {n : Nat} {R R' : Nat → Nat → Bool} {u : Nat} (h : ∀ i, i < n → i ≠ u → ∀ j, j < 16 → R' i j = R i j) : (adjL n R).set u (listM (pm (R' u))) = adjL n R' := by
  apply nthR_ext
  · rw [List.length_set, adjL_len, adjL_len]
  · intro i hi
    rw [List.length_set, adjL_len] at hi
    rw [adjL_nth _ hi]
    by_cases e : u = i
    · subst e
      unfold nthR
      rw [List.getD_eq_getElem?_getD, List.getElem?_set_self (by rw [adjL_len]; exact hi)]; rfl
    · rw [nthR_set_ne _ e, adjL_nth _ hi, pm_congr (fun j hj => h i hi (fun e2 => e e2.symm) j hj)]
theorem part_zero (n : Nat) (A : Nat → Nat → Bool) (xs : List Int) (M : Nat → Nat) : partL n M 0 = adjL n (partA A xs 0) := by
  apply nthR_ext
  · rw [partL_len, adjL_len]
  · intro i hi
    rw [partL_len] at hi
    rw [partL_nth M 0 hi, if_neg (by omega), adjL_nth _ hi]
    have : partA A xs 0 i = fun _ => false := by
      funext j
      unfold partA
      have : hasB (xs.take 0) (i : Int) = false := hasB_false.2 (by simp)
      rw [this]; rfl
    rw [this, pm_false, listM_zero]
theorem part_next {A : Nat → Nat → Bool} {n : Nat} {xs : List Int} {k u : Nat} (hk : k < xs.length) (e : nth xs k = (u : Int)) (hO : OrdP xs n) :
    (adjL n (partA A xs k)).set u (listM (pm (laterA A xs u))) = adjL n (partA A xs (k + 1)) := by
  have hu : partA A xs (k + 1) u = laterA A xs u := by
    funext j
    unfold partA
    have : hasB (xs.take (k + 1)) (u : Int) = true := (hasB_mem _ _).2 (by rw [take_snoc hk, e]; simp)
    rw [this]; rfl
  rw [← hu]
  refine adjL_set (fun i _ hi j _ => ?_)
  unfold partA
  rw [take_snoc hk, e, hasB_snoc]
  have : ((i : Int) == (u : Int)) = false := by rw [beq_eq_false_iff_ne]; omega
  rw [this, Bool.or_false]
theorem laterPart_all {A : Nat → Nat → Bool} {n : Nat} {xs : List Int} (hO : OrdP xs n) : adjL n (partA A xs xs.length) = adjL n (laterA A xs) := by
  refine adjL_congr (fun i hi j _ => ?_)
  unfold partA
  rw [List.take_length, (hasB_mem _ _).2 (ordP_mem hO hi)]; rfl

/-- At work: the filled graph is done, who has gone, the rows so far. -/
structure LaterW (wF : World) (gb gr n : Nat) (R : Nat → Nat → Bool) (p : Nat → Bool) (w : World) : Prop where
  gone : w.rowIs gb 4 n (fun i => .bool (p i))
  rows : OwnGrid 2 33 w gr (.slice (some ⟨gr, 0, none⟩) n n) (adjL n R)
  bel : Below wF.heap.size wF w
theorem LaterW.keep {wF : World} {gb gr n : Nat} {R : Nat → Nat → Bool} {p : Nat → Bool} {w w' : World} (h : LaterW wF gb gr n R p w) (hb : Below w.heap.size w w') : LaterW wF gb gr n R p w' :=
  ⟨rowIs_below h.gone hb, h.rows.keep hb, h.bel.trans (hb.mono h.bel.size)⟩
theorem LaterW.flag {wF : World} {gb gr n : Nat} {R : Nat → Nat → Bool} {p : Nat → Bool} {w : World} (h : LaterW wF gb gr n R p w) (v : Nat) (hg : gb < gr) (hF : wF.heap.size ≤ gb) : LaterW wF gb gr n R (fun i => if i = v then true else p i) (w.setCell ⟨gb, v, none⟩ (.bool true)) := by
  refine ⟨(h.gone.set v (.bool true)).congr (fun i _ => ?_), h.rows.setBelow hg _, h.bel.setCell hF _⟩
  by_cases e : i = v
  · rw [if_pos e, if_pos e]
  · rw [if_neg e, if_neg e]
theorem LaterW.congr {wF : World} {gb gr n : Nat} {R R' : Nat → Nat → Bool} {p p' : Nat → Bool} {w : World} (h : LaterW wF gb gr n R p w) (e : adjL n R = adjL n R') (e2 : ∀ i, i < n → p i = p' i) : LaterW wF gb gr n R' p' w :=
  ⟨h.gone.congr (fun i hi => by rw [e2 i hi]), by rw [← e]; exact h.rows, h.bel⟩

theorem later_put {wF wd w8 : World} {gb gr n u m : Nat} {R R' : Nat → Nat → Bool} {p : Nat → Bool} {q : Nat → Bool} {a : Option Addr} {c : Nat} (h : LaterW wF gb gr n R p wd) (h8 : LaterW wF gb gr n R p w8) (hb : Below wd.heap.size wd w8) (ho : OwnRow 2 w8 wd.heap.size (.slice a m c) (listM (pm q)))
    (e : (adjL n R).set u (listM (pm q)) = adjL n R') (hu : u < n) (hz : gr ≤ wd.heap.size) (hz2 : gb < gr ∧ wF.heap.size ≤ gr) : LaterW wF gb gr n R' p (w8.setCell ⟨gr, u, none⟩ (.slice a m c)) := by
  have hr := OwnGrid.setRow (w := wd) (w' := w8) (by decide) h.rows hb (by rw [adjL_len]; exact hu) (ho.mono hz) (fun k hk => Or.inl (ho.lt k hk).1)
  rw [e] at hr
  exact ⟨h8.gone.setOther (a := ⟨gr, u, none⟩) (by simp; omega) _, hr, h8.bel.setCell hz2.2 _⟩

set_option maxHeartbeats 4000000 in
set_option maxRecDepth 100000 in
theorem l7Later_any (v v1 : Value) (L : List (List Int)) (xs : List Int) (w : World) (h : GridAt w v L) (h1 : RowAt w v1 xs) (hG : GraphP L) (hO : OrdP xs L.length) :
    Calls Try.prog 34 #[.agg #[v], v1] w (GaveGrid w (adjL L.length (laterA (adjB L) xs))) := by
  have hz := hG.1
  have hlen := hO.1
  obtain ⟨a0, c0, rfl⟩ := h.slice
  obtain ⟨bx, ox, cx, rfl, lx1, lx2, hcx⟩ := h1.pos (by omega)
  have hrel0 := adjB_rel hG
  have HGP := Lib.hid hG
  have HOP := Lib.hid hO
  have HREL := Lib.hid hrel0
  have HFR : Hid (RelP L.length (fillX (adjB L) xs)) := fillX_rel hrel0 xs
  have HG : Hid (∀ W, Below w.heap.size w W → GridAt W (.slice a0 L.length c0) L) := fun W hb => h.keep hb
  have HR : Hid (∀ W, Below w.heap.size w W → RowAt W (.slice (some ⟨bx, ox, none⟩) xs.length cx) xs) := fun W hb => h1.keep hb
  have HCX : Hid (∀ W, Below w.heap.size w W → ∀ k, k < xs.length → W.cell? ⟨bx, ox + k, none⟩ = some (.int .i64 (nth xs k))) := fun W hb k hk => cell_keep hb (hcx k hk)
  have HV : Hid (∀ k, k < xs.length → ∃ u : Nat, u < L.length ∧ nth xs k = (u : Int)) := fun k hk => ordP_at hO hk
  have hb1 : Below w.heap.size w (w.alloc (.cells #[.slice a0 L.length c0] 37)) := (Below.refl _ _).alloc (Nat.le_refl _) _
  have HB1 := Lib.hid hb1
  have HARG : Hid (BoxAt (w.alloc (.cells #[.slice a0 L.length c0] 37)) w.heap.size (.slice a0 L.length c0)) := BoxAt.new _ _ _
  have HLEN := Lib.hid hlen
  have hx16 : xs.length ≤ 16 := by omega
  clear h h1 hG hcx hrel0 hb1 hO hlen
  go_enter Try.func34, Try.ntmps34
  go_wp2_with fail
  refine (l7Fill_any _ _ L xs _ (HG.out _ HB1.out) (HR.out _ HB1.out) HGP.out HOP.out).mono ?_
  rintro e w3 ⟨n3, a3, c3, rfl, ho3, hb3⟩
  obtain ⟨g, cap, eg, hBg, hgs, _⟩ := ho3.place (by rw [adjL_len]; omega)
  simp only [adjL_len, Value.slice.injEq] at eg
  obtain ⟨rfl, rfl, rfl⟩ := eg
  have hb4 : Below w3.heap.size w3 (w3.alloc (.cells #[.slice (some ⟨g, 0, none⟩) L.length c3] 37)) := (Below.refl _ _).alloc (Nat.le_refl _) _
  have HB4 : Hid (Below w.heap.size w (w3.alloc (.cells #[.slice (some ⟨g, 0, none⟩) L.length c3] 37))) := (HB1.out.trans (hb3.mono (by simp))).alloc (by have := hb3.size; simp at this; omega) _
  have HGF4 : Hid (GridAt (w3.alloc (.cells #[.slice (some ⟨g, 0, none⟩) L.length c3] 37)) (.slice (some ⟨g, 0, none⟩) L.length c3) (adjL L.length (fillX (adjB L) xs))) := ho3.grid.keep hb4
  have HBX4 : Hid (BoxAt (w3.alloc (.cells #[.slice (some ⟨g, 0, none⟩) L.length c3] 37)) w3.heap.size (.slice (some ⟨g, 0, none⟩) L.length c3)) := BoxAt.new _ _ _
  have HA4 : Hid (BoxAt (w3.alloc (.cells #[.slice (some ⟨g, 0, none⟩) L.length c3] 37)) w.heap.size (.slice a0 L.length c0)) := (HARG.out.keep hb3).keep hb4
  have k4 := HA4.out.1
  clear ho3 hb3 hb4
  go_wp2_with fail
  obtain ⟨wF, hwF⟩ : ∃ wF, wF = w3.alloc (.cells #[.slice (some ⟨g, 0, none⟩) L.length c3] 37) := ⟨_, rfl⟩
  have hszF : wF.heap.size = w3.heap.size + 1 := by rw [hwF, size_alloc1]
  rw [← hwF] at HB4 HGF4 HBX4 HA4 k4 ⊢
  clear hwF
  refine (l1Size_any _ L _ (HG.out _ HB4.out)).mono ?_
  rintro e w5 ⟨rfl, hb5⟩
  have hmk := run_make_row' (P := Try.prog) 77 4 (.bool false) 1 Try.underlying77 Try.infoBo rfl .i64 .i64 L.length (by omega) (by omega)
  have hrm := World.rowIs_made w5 (.bool false) L.length 4
  have hb6 : Below wF.heap.size wF (w5.alloc (.cells (madeCells #[.bool false] L.length) 4)) := hb5.alloc hb5.size _
  have HB6 := Lib.hid hb6
  have HRM := Lib.hid hrm
  have hz5 : wF.heap.size ≤ w5.heap.size := hb5.size
  have k5 := (HA4.out.keep hb6).1
  clear hb5 k4 hrm hb6
  go_wp2_with fail
  refine (l1Size_any _ L _ (HG.out _ (HB4.out.trans (HB6.out.mono HB4.out.size)))).mono ?_
  rintro e w6 ⟨rfl, hb6⟩
  have hmk2 := run_make_row' (P := Try.prog) 22 33 (.slice none 0 0) 24 Try.underlying22 Try.infoR rfl .i64 .i64 L.length (by omega) (by omega)
  have hog := own_made w6 L.length (fun _ => 0) hz.2
  have hz6 : w5.heap.size + 1 ≤ w6.heap.size := by have := hb6.size; rw [size_alloc1] at this; exact this
  have hb7 : Below w6.heap.size w6 (w6.alloc (.cells (madeCells #[.slice none 0 0] L.length) 33)) := (Below.refl _ _).alloc (Nat.le_refl _) _
  have HW0 : Hid (LaterW wF w5.heap.size w6.heap.size L.length (partA (adjB L) xs 0) (fun i => hasB (xs.take 0) (i : Int)) (w6.alloc (.cells (madeCells #[.slice none 0 0] L.length) 33))) := by
    refine ⟨(rowIs_below (rowIs_below HRM.out hb6) hb7).congr (fun i _ => ?_), by rw [← part_zero L.length (adjB L) xs (fun _ => 0)]; exact hog, (HB6.out.trans (hb6.mono (by rw [size_alloc1]; omega))).trans (hb7.mono (by omega))⟩
    have : hasB (xs.take 0) (i : Int) = false := hasB_false.2 (by simp)
    rw [this]
  clear hb6 hog hb7 k5 HRM
  go_wp2_with fail
  go_loopw [8] (fun i wr => ∃ k : Nat, k ≤ xs.length ∧ i = .int .i64 k ∧ LaterW wF w5.heap.size w6.heap.size L.length (partA (adjB L) xs k) (fun i => hasB (xs.take k) (i : Int)) wr) (fun i _ => xs.length - (intOf i).toNat)
  case atStart => exact ⟨0, Nat.zero_le _, rfl, HW0.out⟩
  case round =>
    obtain ⟨k, hk, rfl, hw⟩ := hrel
    by_cases hlt : k < xs.length
    · obtain ⟨u, hu, eu⟩ := HV.out k hlt
      have HBW : Hid (∀ W, Below wF.heap.size wF W → Below w.heap.size w W) := fun W hb => HB4.out.trans (hb.mono HB4.out.size)
      have HKX : Hid (∀ W, Below wF.heap.size wF W → W.cell? ⟨bx, ox + k, none⟩ = some (.int .i64 (u : Int))) := fun W hb => by
        have := HCX.out W (HBW.out W hb) k hlt
        rw [eu] at this; exact this
      have HKF : Hid (∀ W, Below wF.heap.size wF W → W.cell? ⟨w3.heap.size, 0, none⟩ = some (.slice (some ⟨g, 0, none⟩) L.length c3)) := fun W hb => (HBX4.out.keep hb).1
      have hck := HKX.out _ hw.bel
      have kg := hw.gone.cell hu
      have kf := hw.gone.frozen u
      have huI : (u : Int) < (L.length : Int) := by omega
      have HT : Hid (xs.take (k + 1) = xs.take k ++ [(u : Int)]) := by show _ = _; rw [take_snoc hlt, eu]
      have HNX : Hid ((adjL L.length (partA (adjB L) xs k)).set u (listM (pm (laterA (adjB L) xs u))) = adjL L.length (partA (adjB L) xs (k + 1))) := part_next hlt eu HOP.out
      have HLT : Hid (∀ j, laterA (adjB L) xs u j = leftB (fillX (adjB L) xs) (xs.take (k + 1)) u j) := fun j => later_full HREL.out HOP.out hlt eu j
      have HW4 : Hid (LaterW wF w5.heap.size w6.heap.size L.length (partA (adjB L) xs k) (fun i => hasB (xs.take (k + 1)) (i : Int)) (wr.setCell ⟨w5.heap.size, u, none⟩ (.bool true))) := by
        refine (hw.flag u (by omega) (by omega)).congr rfl (fun i _ => ?_)
        rw [HT.out]; exact hasB_more
      have HZ6 : Hid (w5.heap.size < w6.heap.size ∧ wF.heap.size ≤ w6.heap.size) := by show _ ∧ _; omega
      have HLT6 : Hid (w6.heap.size ≤ wr.heap.size) := by
        obtain ⟨cur, hcur⟩ := hw.rows.blkT
        exact Nat.le_of_lt (Array.getElem?_eq_some_iff.1 hcur).1
      clear hw eu
      go_wp2_with fail
      have HLT7 : Hid (w6.heap.size ≤ (wr.setCell ⟨w5.heap.size, u, none⟩ (.bool true)).heap.size) := by show _ ≤ _; rw [size_setCell1]; exact HLT6.out
      clear HLT6
      clear kg kf hck
      generalize wr.setCell ⟨w5.heap.size, u, none⟩ (.bool true) = w7 at HW4 HLT7 ⊢
      have k7 := HKF.out _ HW4.out.bel
      have x7 := HKX.out _ HW4.out.bel
      have HWD := Lib.hid (HW4.out.keep (Below.refl _ _).drew)
      have HGD : Hid (GridAt w7.drew (.slice (some ⟨g, 0, none⟩) L.length c3) (adjL L.length (fillX (adjB L) xs))) := HGF4.out.keep HWD.out.bel
      go_region_law (first
        | (go_simp; go_at_call 56; have hcall := l7Left_any (.slice (some ⟨g, 0, none⟩) L.length c3) (adjL L.length (fillX (adjB L) xs)) u w5.heap.size (fun i => hasB (xs.take (k + 1)) (i : Int)) w7.drew HGD.out (adj_setP HFR.out hz hu) (by rw [adjL_len]; exact hz.2) (by rw [adjL_len]; exact hu) (by rw [adjL_len]; exact HWD.out.gone); rw [adjL_len, left_row hu] at hcall; refine hcall.mono ?_; clear hcall; rintro e w8 ⟨n8, a8, c8, rfl, ho8, hb8⟩; have HW8 := Lib.hid (HWD.out.keep hb8); have k8 := HKF.out _ HW8.out.bel; have x8 := HKX.out _ HW8.out.bel; have HB8 : Hid (Below w7.heap.size w7.drew w8) := hb8; have HO8 : Hid (OwnRow 2 w8 w7.heap.size (.slice a8 n8 c8) (listM (pm (laterA (adjB L) xs u)))) := (by show OwnRow _ _ _ _ _; rw [show laterA (adjB L) xs u = leftB (fillX (adjB L) xs) (xs.take (k + 1)) u from funext HLT.out]; exact ho8); obtain ⟨g8, cap8, eo8, _, _, hcell8⟩ := HW8.out.rows.place (by rw [adjL_len]; omega); simp only [adjL_len, Value.slice.injEq, Option.some.injEq, Addr.mk.injEq, and_true, true_and] at eo8; have eo1 := eo8.1; clear eo8; rw [← eo1] at hcell8; clear eo1; obtain ⟨_, _, _, ko8, fo8, _⟩ := hcell8 u (by rw [adjL_len]; exact hu); have HEND : Hid (LaterW wF w5.heap.size w6.heap.size L.length (partA (adjB L) xs (k + 1)) (fun i => hasB (xs.take (k + 1)) (i : Int)) (w8.setCell ⟨w6.heap.size, u, none⟩ (.slice a8 n8 c8))) := later_put HWD.out HW8.out HB8.out HO8.out HNX.out hu HLT7.out HZ6.out; clear ho8 hb8 hcell8))
      all_goals (
        clear k8 x8 k7 x7
        go_wp2
        go_roundw
        case rel =>
          refine ⟨k + 1, by omega, by go_num, HEND.out⟩
        case measure => simp [intOf]; omega)
    · obtain rfl : k = xs.length := by omega
      have HW := Lib.hid hw
      clear hw
      go_wp2
      go_ret
      refine ⟨_, _, _, rfl, ?_, HB4.out.trans (HW.out.bel.mono HB4.out.size)⟩
      have ho := HW.out.rows
      rw [laterPart_all HOP.out] at ho
      exact ho.mono (by have := HB4.out.size; omega)

end Go.Proofs.Ytohjfcfcopbmoaa
