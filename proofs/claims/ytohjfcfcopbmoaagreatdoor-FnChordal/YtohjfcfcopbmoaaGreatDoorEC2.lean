/- Walks: PerfectOrder and ChordalIn of the model. -/
import Derived.Test.YtohjfcfcopbmoaaGreatDoorQEG1
import Derived.Test.YtohjfcfcopbmoaaGreatDoorQEL1

namespace Go.Proofs.YtohjfcfcopbmoaaGreatDoor
open Go.RowKit

theorem l8Clique_any (v v1 : Value) (L : List (List Int)) (xs : List Int) (B : Nat → Nat → Bool) (w : World) (h : GridAt w v L) (h1 : RowAt w v1 xs) (hlen : xs.length ≤ 16)
    (hx : ∀ i, i < xs.length → ∃ u : Nat, u < L.length ∧ nth xs i = (u : Int)) (hB : ∀ k i, k < xs.length → i < xs.length → hasB (nthR L (vtxN xs k)) (nth xs i) = B (vtxN xs k) (vtxN xs i)) :
    Calls Tryz.prog 191 #[.agg #[v], v1] w fun e w' => e = .returned (.bool (missN B xs == 0)) ∧ Below w.heap.size w w' := by
  obtain ⟨a0, c0, rfl⟩ := h.slice
  have HB0 : Hid (Below w.heap.size w (w.alloc (.cells #[.slice a0 L.length c0] 26))) := (Below.refl _ _).alloc (Nat.le_refl _) _
  have hg := h.keep HB0.out
  have hr := h1.keep HB0.out
  have hle := missTo_le B xs hlen
  have HM : Hid (missTo B xs xs.length = missN B xs) := rfl
  clear h h1
  go_enter Tryz.func191, Tryz.ntmps191
  go_wp2_with fail
  refine (l7Missing_any _ _ L xs B _ hg hr hlen hx hB).mono ?_
  rintro e w1 ⟨rfl, hb1⟩
  have HB1 : Hid (Below w.heap.size w w1) := HB0.out.trans (hb1.mono HB0.out.size)
  rw [HM.out] at hle
  obtain ⟨m, hm⟩ : ∃ m, m = missN B xs := ⟨_, rfl⟩
  rw [← hm] at hle ⊢
  have HMM := Lib.hid hm
  clear hb1 hg hr hx hB hm
  by_cases h0 : m = 0
  · subst h0
    go_wp2
    go_ret
    exact ⟨by rw [← HMM.out]; rfl, HB1.out⟩
  · have hne : ((m : Int) == 0) = false := by rw [beq_eq_false_iff_ne]; omega
    have HE : Hid ((missN B xs == 0) = false) := by show _ = _; rw [← HMM.out, beq_eq_false_iff_ne]; exact h0
    clear h0
    go_wp2
    go_ret
    exact ⟨ret_bool HE.out.symm, HB1.out⟩

theorem left_vtx {n : Nat} {S : Nat → Bool} (hS : ∀ u, S u = true → u < n) : ∀ i, i < (listM (pm S)).length → ∃ u : Nat, u < n ∧ nth (listM (pm S)) i = (u : Int) := fun i hi => by
  obtain ⟨h1, _, h3⟩ := vtx_listM hi
  exact ⟨_, hS _ h1, h3⟩
theorem left_adj {L : List (List Int)} (hG : GraphP L) {S : Nat → Bool} (hS : ∀ u, S u = true → u < L.length) : ∀ k i, k < (listM (pm S)).length → i < (listM (pm S)).length → hasB (nthR L (vtxN (listM (pm S)) k)) (nth (listM (pm S)) i) = adjB L (vtxN (listM (pm S)) k) (vtxN (listM (pm S)) i) := fun k i hk hi => by
  obtain ⟨h1, _, h3⟩ := vtx_listM hk
  obtain ⟨h4, h5, h6⟩ := vtx_listM hi
  rw [h6]
  exact adjB_has hG (hS _ h1) h5

def lenO : Value → Nat
  | .slice _ n _ => n
  | _ => 0
/-- At work: who has gone, the list so far. -/
structure PoW (w1 : World) (n : Nat) (ys : List Int) (ov : Value) (w : World) : Prop where
  gone : w.rowIs w1.heap.size 4 n (fun i => .bool (hasB ys (i : Int)))
  out : OwnRow 2 w (w1.heap.size + 1) ov ys
  bel : Below w1.heap.size w1 w
theorem PoW.keep {w1 : World} {n : Nat} {ys : List Int} {ov : Value} {w w' : World} (h : PoW w1 n ys ov w) (hb : Below w.heap.size w w') : PoW w1 n ys ov w' :=
  ⟨rowIs_below h.gone hb, h.out.keep hb, h.bel.trans (hb.mono h.bel.size)⟩
theorem PoW.flag {w1 : World} {n : Nat} {ys : List Int} {ov : Value} {w : World} (h : PoW w1 n ys ov w) (q : Nat) : (w.setCell ⟨w1.heap.size, q, none⟩ (.bool true)).rowIs w1.heap.size 4 n (fun i => .bool (hasB (ys ++ [(q : Int)]) (i : Int))) ∧ OwnRow 2 (w.setCell ⟨w1.heap.size, q, none⟩ (.bool true)) (w1.heap.size + 1) ov ys ∧ Below w1.heap.size w1 (w.setCell ⟨w1.heap.size, q, none⟩ (.bool true)) := by
  refine ⟨(h.gone.set q (.bool true)).congr (fun i _ => ?_), h.out.setBelow (by simp) _, h.bel.setCell (Nat.le_refl _) _⟩
  rw [← hasB_more]
  by_cases e : i = q
  · rw [if_pos e, if_pos e]
  · rw [if_neg e, if_neg e]
theorem poS_next {A : Nat → Nat → Bool} {n k q : Nat} (h : findTo (mayGo A (poS A n k)) n = q) (hq : q < n) : poS A n (k + 1) = poS A n k ++ [(q : Int)] := by rw [poS, h, if_pos hq]
theorem own_none2 (w : World) (B : Nat) (hB : B ≤ w.heap.size) : OwnRow 2 (w.alloc (.cells #[] 2)) B (.slice (some ⟨w.heap.size, 0, none⟩) 0 0) [] :=
  ⟨by simp, by simp, .inr ⟨w.heap.size, 0, #[], rfl, hB, heap_alloc_new w _, Nat.le_refl _, Nat.zero_le _, rfl, fun i hi => absurd hi (by simp)⟩⟩
/-- A row and a yes or no. -/
def GaveYes (w : World) (xs : List Int) (ok : Bool) (e : Ending) (w' : World) : Prop :=
  ∃ m a c, e = .returned (.tuple #[.slice a m c, .bool ok]) ∧ OwnRow 2 w' w.heap.size (.slice a m c) xs ∧ Below w.heap.size w w'
def pfL (L : List (List Int)) : List Int := if GraphP L ∧ pfB (adjB L) L.length = true then poS (adjB L) L.length L.length else []
def poV (L : List (List Int)) : Bool := decide (GraphP L) && pfB (adjB L) L.length

theorem pf_no {L : List (List Int)} (h : ¬ (GraphP L ∧ pfB (adjB L) L.length = true)) : pfL L = [] ∧ poV L = false := by
  refine ⟨if_neg h, ?_⟩
  unfold poV
  by_cases hG : GraphP L
  · have : pfB (adjB L) L.length = false := by
      cases hp : pfB (adjB L) L.length with
      | false => rfl
      | true => exact absurd ⟨hG, hp⟩ h
    rw [this, Bool.and_false]
  · rw [decide_eq_false hG, Bool.false_and]
theorem pf_yes {L : List (List Int)} (hG : GraphP L) (h : pfB (adjB L) L.length = true) : pfL L = poS (adjB L) L.length L.length ∧ poV L = true := by
  refine ⟨if_pos ⟨hG, h⟩, ?_⟩
  unfold poV
  rw [decide_eq_true hG, h]; rfl

set_option maxHeartbeats 8000000 in
set_option maxRecDepth 100000 in
theorem specPerfectOrder_any (v : Value) (L : List (List Int)) (w : World) (h : GridAt w v L) : Calls Tryz.prog 100 #[.agg #[v]] w (GaveYes w (pfL L) (poV L)) := by
  obtain ⟨i0, hi, hz0, hz1, hz2⟩ := info_parts Tryz.infoI
  obtain ⟨a0, c0, rfl⟩ := h.slice
  have HGK : Hid (∀ W, Below w.heap.size w W → GridAt W (.slice a0 L.length c0) L) := fun W hb => h.keep hb
  have HB0 : Hid (Below w.heap.size w (w.alloc (.cells #[.slice a0 L.length c0] 26))) := (Below.refl _ _).alloc (Nat.le_refl _) _
  have HX0 : Hid (BoxAt (w.alloc (.cells #[.slice a0 L.length c0] 26)) w.heap.size (.slice a0 L.length c0)) := BoxAt.new _ _ _
  clear h
  go_enter Tryz.func100, Tryz.ntmps100
  go_wp2_with fail
  refine (specGraphOk_any _ _ _ (HGK.out _ HB0.out)).mono ?_
  rintro e w1 ⟨rfl, hb1⟩
  have HB1 : Hid (Below w.heap.size w w1) := HB0.out.trans (hb1.mono HB0.out.size)
  have HX1 := Lib.hid (HX0.out.keep hb1)
  clear hb1
  by_cases hG : GraphP L
  · have hz := hG.1
    have HGP := Lib.hid hG
    have HREL := Lib.hid (adjB_rel hG)
    have kb1 := HX1.out.1
    rw [decide_eq_true hG]
    clear hG
    go_wp2_with fail
    refine (l1Size_any _ L _ (HGK.out _ HB1.out)).mono ?_
    rintro e w2 ⟨rfl, hb2⟩
    have HB2 : Hid (Below w.heap.size w w2) := HB1.out.trans (hb2.mono HB1.out.size)
    have HX2 := Lib.hid (HX1.out.keep hb2)
    have hmk := run_make_row' (P := Tryz.prog) 156 4 (.bool false) 1 Tryz.underlying156 Tryz.infoBo rfl .i64 .i64 L.length (by omega) (by omega)
    have hrm := World.rowIs_made w2 (.bool false) L.length 4
    have hb3 : Below w2.heap.size w2 ((w2.alloc (.cells (madeCells #[.bool false] L.length) 4)).alloc (.cells #[] 2)) := ((Below.refl _ _).alloc (Nat.le_refl _) _).alloc (by simp) _
    have HW0 : Hid (PoW w2 L.length (poS (adjB L) L.length 0) (.slice (some ⟨w2.heap.size + 1, 0, none⟩) 0 0) ((w2.alloc (.cells (madeCells #[.bool false] L.length) 4)).alloc (.cells #[] 2))) := by
      refine ⟨(hrm.alloc _).congr (fun i _ => ?_), ⟨by simp [poS], by simp [poS], Or.inr ⟨w2.heap.size + 1, 0, #[], rfl, Nat.le_refl _, ?_, Nat.zero_le _, Nat.zero_le _, rfl, fun i hi => absurd hi (by simp [poS])⟩⟩, hb3⟩
      · have : hasB (poS (adjB L) L.length 0) (i : Int) = false := hasB_false.2 (by simp [poS])
        rw [this]
      · have := heap_alloc_new (w2.alloc (.cells (madeCells #[.bool false] L.length) 4)) (.cells #[] 2)
        rw [size_alloc1] at this
        exact this
    have HBW : Hid (∀ W, Below w2.heap.size w2 W → Below w.heap.size w W) := fun W hb => HB2.out.trans (hb.mono HB2.out.size)
    have HKB : Hid (∀ W, Below w2.heap.size w2 W → W.cell? ⟨w.heap.size, 0, none⟩ = some (.slice a0 L.length c0)) := fun W hb => (HX2.out.keep hb).1
    have hz2' : w.heap.size ≤ w2.heap.size := HB2.out.size
    clear hb2 hrm hb3 kb1
    go_wp2_with fail
    go_loopw [5] (fun ov wr => ∃ k : Nat, k ≤ L.length ∧ (poS (adjB L) L.length k).length = k ∧ PoW w2 L.length (poS (adjB L) L.length k) ov wr ∧ w2.heap.size + 1 ≤ wr.heap.size) (fun ov _ => L.length - lenO ov)
    case atStart => exact ⟨0, Nat.zero_le _, rfl, HW0.out, by simp⟩
    case round =>
      obtain ⟨k, hk, hyl, hw, hzr⟩ := hrel
      obtain ⟨ys, hys⟩ : ∃ ys, ys = poS (adjB L) L.length k := ⟨_, rfl⟩
      rw [← hys] at hyl hw
      obtain ⟨a5, c5, e5⟩ := hw.out.row.slice
      rw [hyl] at e5
      subst e5
      have HYL := Lib.hid hyl
      have HYS := Lib.hid hys
      have HW := Lib.hid hw
      have HZR := Lib.hid hzr
      have kb := HKB.out _ hw.bel
      clear hw hyl hys hzr
      go_wp2_with fail
      refine (l1Size_any _ L _ (HGK.out _ (HBW.out _ HW.out.bel))).mono ?_
      rintro e w5 ⟨rfl, hb5⟩
      have HW5 := Lib.hid (HW.out.keep hb5)
      have HZ5 : Hid (w2.heap.size + 1 ≤ w5.heap.size) := Nat.le_trans HZR.out hb5.size
      clear hb5 kb HW HZR
      by_cases hlt : k < L.length
      · obtain ⟨p, hp⟩ : ∃ p, p = mayGo (adjB L) ys := ⟨_, rfl⟩
        have HPE := Lib.hid hp
        go_wp2_with fail
        go_loopw [6] (fun i wr => ∃ q : Nat, q ≤ L.length ∧ i = .int .i64 q ∧ (∀ u, u < q → p u = false) ∧ PoW w2 L.length ys (.slice a5 k c5) wr ∧ w2.heap.size + 1 ≤ wr.heap.size) (fun i _ => L.length - (intOf i).toNat)
        case atStart => exact ⟨0, Nat.zero_le _, rfl, fun u hu => absurd hu (by omega), HW5.out, HZ5.out⟩
        case round =>
          rename World => w6
          obtain ⟨q, hq, rfl, hno, hw6, hz6⟩ := hrel
          have HNO := Lib.hid hno
          have HW6 := Lib.hid hw6
          have HZ6 := Lib.hid hz6
          have HCB : Hid (∀ W, Below w6.heap.size w6 W → Below w2.heap.size w2 W) := fun W hb => HW6.out.bel.trans (hb.mono HW6.out.bel.size)
          have HC : Hid (Below w6.heap.size w6 w6.drew) := (Below.refl _ _).drew
          have kc := HKB.out _ (HCB.out _ HC.out)
          by_cases hql : q < L.length
          · have hqI : (q : Int) < (L.length : Int) := by omega
            have HKG : Hid (∀ W, Below w6.heap.size w6 W → W.cell? ⟨w2.heap.size, q, none⟩ = some (.bool (hasB ys (q : Int)))) := fun W hb => (rowIs_below HW6.out.gone hb).cell hql
            have HPQ : Hid (p q = (!hasB ys (q : Int) && (missN (adjB L) (listM (pm (leftB (adjB L) ys q))) == 0))) := by show _ = _; rw [HPE.out]; rfl
            by_cases hg : hasB ys (q : Int) = true
            · have kg := HKG.out _ HC.out
              rw [hg] at kg
              have HPF : Hid (p q = false) := by show _ = _; rw [HPQ.out, hg]; rfl
              have HKG2 : Hid (∀ W, Below w6.heap.size w6 W → W.cell? ⟨w2.heap.size, q, none⟩ = some (.bool true)) := fun W hb => by have := HKG.out W hb; rw [hg] at this; exact this
              have kl := fun z : Later w6 => z.cell (HKB.out _ HW6.out.bel)
              have kl1 := fun z : Later w6 => z.cell (HKG2.out _ (Below.refl _ _))
              have hcall : Hid (∀ z : Later w6, Calls Tryz.prog 80 #[.agg #[.slice a0 L.length c0]] z.at fun e w5 => e = .returned (.int .i64 (L.length : Int)) ∧ ∃ t : Later w6, w5 = t.at) :=
                fun z => Calls.later (l1Size_any _ L _ (HGK.out _ (HBW.out _ (HCB.out _ z.bel))))
              clear hg hno hw6 hz6 hp kc kg
              go_wp2_with fail
              refine wp_region_later (by kernel_rfl) (by kernel_rfl) ?_
              repeat (go_big_quiet_step ((go_at_call 80; exact hcall.out _)))
              refine wpQuiet_nil ?_
              rintro _ ⟨z, rfl⟩
              have HZZ := Lib.hid z.bel
              generalize z.at = w7 at HZZ ⊢
              clear kl kl1 hcall
              go_wp2
              go_roundw
              case rel => exact ⟨q + 1, by omega, by go_num, fun u hu => by rcases Nat.lt_succ_iff_lt_or_eq.1 hu with h | h; exact HNO.out u h; subst h; exact HPF.out, HW6.out.keep HZZ.out, Nat.le_trans HZ6.out HZZ.out.size⟩
              case measure => simp [intOf]; omega
            · have hg' : hasB ys (q : Int) = false := by simpa using hg
              have kg := HKG.out _ HC.out
              rw [hg'] at kg
              have HKG2 : Hid (∀ W, Below w6.heap.size w6 W → W.cell? ⟨w2.heap.size, q, none⟩ = some (.bool false)) := fun W hb => by have := HKG.out W hb; rw [hg'] at this; exact this
              have HLE : Hid (nthR L q = listM (pm (adjB L q))) := by
                have h := adjL_nth (n := L.length) (adjB L) hql
                rw [graph_adjL HGP.out] at h; exact h
              have HLF : Hid (∀ W, Below w6.heap.size w6 W → Calls Tryz.prog 153 #[.agg #[.slice a0 L.length c0], .int .i64 (q : Int), .slice (some ⟨w2.heap.size, 0, none⟩) L.length L.length] W (GaveRow W (listM (pm (leftB (adjB L) ys q))))) := fun W hb => by
                have h := l7Left_any (.slice a0 L.length c0) L q w2.heap.size (fun i => hasB ys (i : Int)) W (HGK.out _ (HBW.out _ (HCB.out _ hb))) (HGP.out.2.1 q hql).1 hz.2 hql (rowIs_below HW6.out.gone hb)
                rw [HLE.out, stay_pm] at h
                exact h
              have HSR : Hid (∀ u, leftB (adjB L) ys q u = true → u < L.length) := leftB_range HREL.out ys q
              obtain ⟨t, ht⟩ : ∃ t, t = (missN (adjB L) (listM (pm (leftB (adjB L) ys q))) == 0) := ⟨_, rfl⟩
              have HTE := Lib.hid ht
              have HPT : Hid (p q = t) := by show _ = _; rw [HPQ.out, hg', ← ht]; simp
              clear hg hg' hno hw6 hz6 hp ht
              go_wp2_with fail
              go_region_law (first
                | (go_simp; go_at_call 80; refine (l1Size_any _ L _ (HGK.out _ (HBW.out _ (HCB.out _ HC.out)))).mono ?_; rintro e w7 ⟨rfl, hb7⟩; have HD : Hid (Below w6.heap.size w6 w7) := HC.out.trans (hb7.mono HC.out.size); clear HC kc kg; have HC := Lib.hid HD.out; clear HD; have kc := HKB.out _ (HCB.out _ HC.out); have kg := HKG2.out _ HC.out; clear hb7)
                | (go_simp; go_at_call 153; refine (HLF.out _ HC.out).mono ?_; rintro e w7 ⟨n7, a7, c7, rfl, ho7, hb7⟩; have HD : Hid (Below w6.heap.size w6 w7) := HC.out.trans (hb7.mono HC.out.size); clear HC kc kg; have HC := Lib.hid HD.out; clear HD; have kc := HKB.out _ (HCB.out _ HC.out); have kg := HKG2.out _ HC.out; have HR7 := Lib.hid ho7.row; clear ho7 hb7)
                | (go_simp; go_at_call 191; refine (l8Clique_any _ _ L _ (adjB L) _ (HGK.out _ (HBW.out _ (HCB.out _ HC.out))) HR7.out (listM_len _) (left_vtx HSR.out) (left_adj HGP.out HSR.out)).mono ?_; rintro e w8 ⟨rfl, hb8⟩; rw [← HTE.out]; have HD : Hid (Below w6.heap.size w6 w8) := HC.out.trans (hb8.mono HC.out.size); clear HC kc kg; have HC := Lib.hid HD.out; clear HD; have kc := HKB.out _ (HCB.out _ HC.out); have kg := HKG2.out _ HC.out; clear hb8 HR7))
              all_goals (
                have HW8 := Lib.hid (HW6.out.keep HC.out)
                have HZ8 : Hid (w2.heap.size + 1 ≤ w8.heap.size) := Nat.le_trans HZ6.out HC.out.size
                clear kg HC
                cases t)
              all_goals (
                first
                | (
                  clear kc
                  go_wp2
                  go_roundw
                  case rel => exact ⟨q + 1, by omega, by go_num, fun u hu => by rcases Nat.lt_succ_iff_lt_or_eq.1 hu with h | h; exact HNO.out u h; subst h; exact HPT.out, HW8.out, HZ8.out⟩
                  case measure => simp [intOf]; omega)
                | (
                  have HFI : Hid (findTo (mayGo (adjB L) ys) L.length = q) := by
                    show _ = _
                    rw [← HPE.out]
                    exact findTo_at hql HPT.out HNO.out
                  go_wp2_with fail
                  refine (l1Size_any _ L _ (HGK.out _ (HBW.out _ HW8.out.bel))).mono ?_
                  rintro e w9 ⟨rfl, hb9⟩
                  have hw9 := HW8.out.keep hb9
                  have HZ9 : Hid (w2.heap.size + 1 ≤ w9.heap.size) := Nat.le_trans HZ8.out hb9.size
                  have kg9 := hw9.gone.cell hql
                  have fg9 := hw9.gone.frozen q
                  have hne : ((q : Int) == (L.length : Int)) = false := by rw [beq_eq_false_iff_ne]; omega
                  obtain ⟨hf1, hf2, hf3⟩ := hw9.flag q
                  have HF1 := Lib.hid hf1
                  have HF2 := Lib.hid hf2
                  have HF3 := Lib.hid hf3
                  have HZT : Hid (w2.heap.size + 1 ≤ (w9.setCell ⟨w2.heap.size, q, none⟩ (.bool true)).heap.size) := by show _ ≤ _; rw [size_setCell1]; exact HZ9.out
                  have HWO : Hid ((w9.setCell ⟨w2.heap.size, q, none⟩ (.bool true)).ownsRow (w2.heap.size + 1) 2 1 (.slice a5 k c5) k (ys.map (Value.int .i64))) := by
                    have h := hf2.owns
                    rw [HYL.out] at h
                    exact h
                  clear hb9 hw9 hf1 hf2 hf3 kc HW8
                  go_wp2_with (at_builtin; refine wpList_append_own _ rfl (.tmp 49) (.tmp 51) 33 rfl (w2.heap.size + 1) 2 i0 (.int .i64 0) 1 8 Tryz.underlying33 hi hz0 hz1 hz2 rfl (by decide) _ _ _ rfl (HWO.out.alloc _) ⟨w9.heap.size, 0, none⟩ 1 1 [.int .i64 (q : Int)] rfl rfl ?d1 ?d2 ?d3 ?d4 ?d5 ?_)
                  case d1 =>
                    intro j u hj
                    match j, hj with
                    | 0, hj =>
                      simp at hj; subst hj
                      have h := BoxAt.new (w9.setCell ⟨w2.heap.size, q, none⟩ (.bool true)) (.int .i64 (q : Int)) 2
                      rw [size_setCell1] at h
                      simpa [Addr.add] using h.1
                  case d2 => intro u hu; simp at hu; subst hu; rfl
                  case d3 => unfold maxLen; omega
                  case d4 => omega
                  case d5 => have := HZ9.out; simp; omega
                  intro v12 w12 hown12 hgrow12 _
                  have hb12 : Below (w2.heap.size + 1) (w9.setCell ⟨w2.heap.size, q, none⟩ (.bool true)) w12 := ((Below.refl _ _).alloc HZT.out _).grown hgrow12 (by have := HZ9.out; simp; omega) (fun j hj => (HWO.out.lt j hj).1)
                  have HZ12 : Hid (w2.heap.size + 1 ≤ w12.heap.size) := Nat.le_trans HZT.out hb12.size
                  have HEND : Hid (PoW w2 L.length (poS (adjB L) L.length (k + 1)) v12 w12 ∧ (poS (adjB L) L.length (k + 1)).length = k + 1) := by
                    have hfi := HFI.out
                    rw [HYS.out] at hfi
                    have e := poS_next hfi hql
                    rw [← HYS.out] at e
                    rw [e]
                    refine ⟨⟨rowIs_belowB HF1.out hb12 (by omega), ?_, HF3.out.trans (hb12.mono (by omega))⟩, by rw [List.length_append, HYL.out]; rfl⟩
                    exact OwnRow.of_ownsRow (xs := ys ++ [(q : Int)]) (n := k + 1) (by simpa using hown12) (by rw [List.length_append, HYL.out, List.length_singleton]; unfold maxLen; omega) (fun z hz => by
                      rcases List.mem_append.1 hz with hz | hz
                      · exact HF2.out.1 z hz
                      · rw [List.mem_singleton] at hz; subst hz; unfold I64; omega)
                  clear hown12 hgrow12 hb12 kg9 fg9
                  go_wp2
                  go_roundw
                  case rel => exact ⟨k + 1, by omega, HEND.out.2, HEND.out.1, HZ12.out⟩
                  case measure =>
                    obtain ⟨a13, c13, e13⟩ := HEND.out.1.out.row.slice
                    rw [HEND.out.2] at e13
                    subst e13
                    simp [lenO]; omega))
          · obtain rfl : q = L.length := by omega
            have HFI : Hid (findTo (mayGo (adjB L) ys) L.length = L.length) := by
              show _ = _
              rw [← HPE.out]
              exact findTo_none HNO.out
            have HPO : Hid (pfB (adjB L) L.length = false) := by
              have hfi := HFI.out
              rw [HYS.out] at hfi
              exact poS_no hlt hfi
            have hcall : Hid (∀ z : Later w6, Calls Tryz.prog 80 #[.agg #[.slice a0 L.length c0]] z.at fun e w5 => e = .returned (.int .i64 (L.length : Int)) ∧ ∃ t : Later w6, w5 = t.at) :=
              fun z => Calls.later (l1Size_any _ L _ (HGK.out _ (HBW.out _ (HCB.out _ z.bel))))
            have kl := fun z : Later w6 => z.cell (HKB.out _ HW6.out.bel)
            clear hno hw6 hz6 hp kc
            go_wp2_with fail
            refine wp_region_later (by kernel_rfl) (by kernel_rfl) ?_
            repeat (go_big_quiet_step ((go_at_call 80; exact hcall.out _)))
            refine wpQuiet_nil ?_
            rintro _ ⟨z, rfl⟩
            have HZZ := Lib.hid z.bel
            generalize z.at = w7 at HZZ ⊢
            clear kl hcall
            have kc7 := HKB.out _ (HCB.out _ HZZ.out)
            go_wp2_with fail
            refine (l1Size_any _ L _ (HGK.out _ (HBW.out _ (HCB.out _ HZZ.out)))).mono ?_
            rintro e w9 ⟨rfl, hb9⟩
            have HB9 : Hid (Below w.heap.size w w9) := (HBW.out _ (HCB.out _ HZZ.out)).trans (hb9.mono (by have := (HBW.out _ (HCB.out _ HZZ.out)).size; omega))
            have heq : ((L.length : Int) == (L.length : Int)) = true := by simp
            clear hb9 kc7
            go_wp2
            go_ret2
            have hno := pf_no (L := L) (fun h => by have := HPO.out; rw [h.2] at this; cases this)
            rw [hno.1, hno.2]
            exact ⟨0, _, 0, rfl, own_none2 w9 _ HB9.out.size, HB9.out.alloc HB9.out.size _⟩
      · obtain rfl : k = L.length := by omega
        have HPO : Hid (pfB (adjB L) L.length = true) := by
          unfold pfB
          rw [← HYS.out]
          exact decide_eq_true HYL.out
        go_wp2
        go_ret2
        obtain ⟨p1, p2⟩ := pf_yes HGP.out HPO.out
        rw [p1, p2, ← HYS.out]
        exact ⟨_, _, _, rfl, HW5.out.out.mono (by omega), HBW.out _ HW5.out.bel⟩
  · have HG0 := Lib.hid hG
    rw [decide_eq_false hG]
    clear hG
    go_wp2
    go_ret2
    have hno := pf_no (L := L) (fun h => HG0.out h.1)
    rw [hno.1, hno.2]
    exact ⟨0, _, 0, rfl, own_none2 w1 _ HB1.out.size, HB1.out.alloc HB1.out.size _⟩

end Go.Proofs.YtohjfcfcopbmoaaGreatDoor
