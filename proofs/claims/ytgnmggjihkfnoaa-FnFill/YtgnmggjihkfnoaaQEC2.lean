/- The texts EC2, LF1, joined. -/
import Derived.Test.YtgnmggjihkfnoaaQEG1
import Derived.Test.YtgnmggjihkfnoaaQEL1
import Derived.Test.YtgnmggjihkfnoaaER9
import Derived.Test.YtgnmggjihkfnoaaER11
import Derived.Test.YtgnmggjihkfnoaaRB1
import Derived.Test.YtgnmggjihkfnoaaQS1
import Derived.Test.YtgnmggjihkfnoaaQC6
import Derived.Test.YtgnmggjihkfnoaaQC1
import Derived.Test.YtgnmggjihkfnoaaQD5
import Derived.Test.YtgnmggjihkfnoaaQLater
import Derived.BigQuiet

/- Walks: PerfectOrder and ChordalIn of the model. -/
namespace Go.Proofs.Ytgnmggjihkfnoaa
open Go.RowKit

theorem l8Clique_any (v v1 : Value) (L : List (List Int)) (xs : List Int) (B : Nat → Nat → Bool) (w : World) (h : GridAt w v L) (h1 : RowAt w v1 xs) (hlen : xs.length ≤ 16)
    (hx : ∀ i, i < xs.length → ∃ u : Nat, u < L.length ∧ nth xs i = (u : Int)) (hB : ∀ k i, k < xs.length → i < xs.length → hasB (nthR L (vtxN xs k)) (nth xs i) = B (vtxN xs k) (vtxN xs i)) :
    Calls Try.prog 91 #[.agg #[v], v1] w fun e w' => e = .returned (.bool (missN B xs == 0)) ∧ Below w.heap.size w w' := by
  obtain ⟨a0, c0, rfl⟩ := h.slice
  have HB0 : Hid (Below w.heap.size w (w.alloc (.cells #[.slice a0 L.length c0] 29))) := (Below.refl _ _).alloc (Nat.le_refl _) _
  have hg := h.keep HB0.out
  have hr := h1.keep HB0.out
  have hle := missTo_le B xs hlen
  have HM : Hid (missTo B xs xs.length = missN B xs) := rfl
  clear h h1
  go_enter Try.func91, Try.ntmps91
  go_wp2_with fail
  refine (l7Missing_any _ _ L xs B _ hg hr hlen hx hB).mono ?_
  rintro e w1 ⟨rfl, hb1⟩
  have HB1 : Hid (Below w.heap.size w w1) := HB0.out.trans (hb1.mono HB0.out.size)
  rw [HM.out] at hle
  obtain ⟨m, hm⟩ : ∃ m, m = missN B xs := ⟨_, rfl⟩
  rw [← hm] at hle ⊢
  have HMM := Lib.hid hm
  clear hb1 hg hr hx hB hm
  by_cases h0 : m = 0
  · subst h0
    go_wp2
    go_ret
    exact ⟨by rw [← HMM.out]; rfl, HB1.out⟩
  · have hne : ((m : Int) == 0) = false := by rw [beq_eq_false_iff_ne]; omega
    have HE : Hid ((missN B xs == 0) = false) := by show _ = _; rw [← HMM.out, beq_eq_false_iff_ne]; exact h0
    clear h0
    go_wp2
    go_ret
    exact ⟨ret_bool HE.out.symm, HB1.out⟩

theorem left_vtx {n : Nat} {S : Nat → Bool} (hS : ∀ u, S u = true → u < n) : ∀ i, i < (listM (pm S)).length → ∃ u : Nat, u < n ∧ nth (listM (pm S)) i = (u : Int) := fun i hi => by
  obtain ⟨h1, _, h3⟩ := vtx_listM hi
  exact ⟨_, hS _ h1, h3⟩
theorem left_adj {L : List (List Int)} (hG : GraphP L) {S : Nat → Bool} (hS : ∀ u, S u = true → u < L.length) : ∀ k i, k < (listM (pm S)).length → i < (listM (pm S)).length → hasB (nthR L (vtxN (listM (pm S)) k)) (nth (listM (pm S)) i) = adjB L (vtxN (listM (pm S)) k) (vtxN (listM (pm S)) i) := fun k i hk hi => by
  obtain ⟨h1, _, h3⟩ := vtx_listM hk
  obtain ⟨h4, h5, h6⟩ := vtx_listM hi
  rw [h6]
  exact adjB_has hG (hS _ h1) h5

def lenO : Value → Nat
  | .slice _ n _ => n
  | _ => 0
/-- At work: who has gone, the list so far. -/
structure PoW (w1 : World) (n : Nat) (ys : List Int) (ov : Value) (w : World) : Prop where
  gone : w.rowIs w1.heap.size 4 n (fun i => .bool (hasB ys (i : Int)))
  out : OwnRow 2 w (w1.heap.size + 1) ov ys
  bel : Below w1.heap.size w1 w
theorem PoW.keep {w1 : World} {n : Nat} {ys : List Int} {ov : Value} {w w' : World} (h : PoW w1 n ys ov w) (hb : Below w.heap.size w w') : PoW w1 n ys ov w' :=
  ⟨rowIs_below h.gone hb, h.out.keep hb, h.bel.trans (hb.mono h.bel.size)⟩
theorem PoW.flag {w1 : World} {n : Nat} {ys : List Int} {ov : Value} {w : World} (h : PoW w1 n ys ov w) (q : Nat) : (w.setCell ⟨w1.heap.size, q, none⟩ (.bool true)).rowIs w1.heap.size 4 n (fun i => .bool (hasB (ys ++ [(q : Int)]) (i : Int))) ∧ OwnRow 2 (w.setCell ⟨w1.heap.size, q, none⟩ (.bool true)) (w1.heap.size + 1) ov ys ∧ Below w1.heap.size w1 (w.setCell ⟨w1.heap.size, q, none⟩ (.bool true)) := by
  refine ⟨(h.gone.set q (.bool true)).congr (fun i _ => ?_), h.out.setBelow (by simp) _, h.bel.setCell (Nat.le_refl _) _⟩
  rw [← hasB_more]
  by_cases e : i = q
  · rw [if_pos e, if_pos e]
  · rw [if_neg e, if_neg e]
theorem poS_next {A : Nat → Nat → Bool} {n k q : Nat} (h : findTo (mayGo A (poS A n k)) n = q) (hq : q < n) : poS A n (k + 1) = poS A n k ++ [(q : Int)] := by rw [poS, h, if_pos hq]
theorem own_none2 (w : World) (B : Nat) (hB : B ≤ w.heap.size) : OwnRow 2 (w.alloc (.cells #[] 2)) B (.slice (some ⟨w.heap.size, 0, none⟩) 0 0) [] :=
  ⟨by simp, by simp, .inr ⟨w.heap.size, 0, #[], rfl, hB, heap_alloc_new w _, Nat.le_refl _, Nat.zero_le _, rfl, fun i hi => absurd hi (by simp)⟩⟩
/-- A row and a yes or no. -/
def GaveYes (w : World) (xs : List Int) (ok : Bool) (e : Ending) (w' : World) : Prop :=
  ∃ m a c, e = .returned (.tuple #[.slice a m c, .bool ok]) ∧ OwnRow 2 w' w.heap.size (.slice a m c) xs ∧ Below w.heap.size w w'
def pfL (L : List (List Int)) : List Int := if GraphP L ∧ pfB (adjB L) L.length = true then poS (adjB L) L.length L.length else []
def poV (L : List (List Int)) : Bool := decide (GraphP L) && pfB (adjB L) L.length

theorem pf_no {L : List (List Int)} (h : ¬ (GraphP L ∧ pfB (adjB L) L.length = true)) : pfL L = [] ∧ poV L = false := by
  refine ⟨if_neg h, ?_⟩
  unfold poV
  by_cases hG : GraphP L
  · have : pfB (adjB L) L.length = false := by
      cases hp : pfB (adjB L) L.length with
      | false => rfl
      | true => exact absurd ⟨hG, hp⟩ h
    rw [this, Bool.and_false]
  · rw [decide_eq_false hG, Bool.false_and]
theorem pf_yes {L : List (List Int)} (hG : GraphP L) (h : pfB (adjB L) L.length = true) : pfL L = poS (adjB L) L.length L.length ∧ poV L = true := by
  refine ⟨if_pos ⟨hG, h⟩, ?_⟩
  unfold poV
  rw [decide_eq_true hG, h]; rfl

set_option maxHeartbeats 8000000 in
set_option maxRecDepth 100000 in
theorem specPerfectOrder_any (v : Value) (L : List (List Int)) (w : World) (h : GridAt w v L) : Calls Try.prog 64 #[.agg #[v]] w (GaveYes w (pfL L) (poV L)) := by
  obtain ⟨i0, hi, hz0, hz1, hz2⟩ := info_parts Try.infoI
  obtain ⟨a0, c0, rfl⟩ := h.slice
  have HGK : Hid (∀ W, Below w.heap.size w W → GridAt W (.slice a0 L.length c0) L) := fun W hb => h.keep hb
  have HB0 : Hid (Below w.heap.size w (w.alloc (.cells #[.slice a0 L.length c0] 29))) := (Below.refl _ _).alloc (Nat.le_refl _) _
  have HX0 : Hid (BoxAt (w.alloc (.cells #[.slice a0 L.length c0] 29)) w.heap.size (.slice a0 L.length c0)) := BoxAt.new _ _ _
  clear h
  go_enter Try.func64, Try.ntmps64
  go_wp2_with fail
  refine (specGraphOk_any _ _ _ (HGK.out _ HB0.out)).mono ?_
  rintro e w1 ⟨rfl, hb1⟩
  have HB1 : Hid (Below w.heap.size w w1) := HB0.out.trans (hb1.mono HB0.out.size)
  have HX1 := Lib.hid (HX0.out.keep hb1)
  clear hb1
  by_cases hG : GraphP L
  · have hz := hG.1
    have HGP := Lib.hid hG
    have HREL := Lib.hid (adjB_rel hG)
    have kb1 := HX1.out.1
    rw [decide_eq_true hG]
    clear hG
    go_wp2_with fail
    refine (l1Size_any _ L _ (HGK.out _ HB1.out)).mono ?_
    rintro e w2 ⟨rfl, hb2⟩
    have HB2 : Hid (Below w.heap.size w w2) := HB1.out.trans (hb2.mono HB1.out.size)
    have HX2 := Lib.hid (HX1.out.keep hb2)
    have hmk := run_make_row' (P := Try.prog) 84 4 (.bool false) 1 Try.underlying84 Try.infoBo rfl .i64 .i64 L.length (by omega) (by omega)
    have hrm := World.rowIs_made w2 (.bool false) L.length 4
    have hb3 : Below w2.heap.size w2 ((w2.alloc (.cells (madeCells #[.bool false] L.length) 4)).alloc (.cells #[] 2)) := ((Below.refl _ _).alloc (Nat.le_refl _) _).alloc (by simp) _
    have HW0 : Hid (PoW w2 L.length (poS (adjB L) L.length 0) (.slice (some ⟨w2.heap.size + 1, 0, none⟩) 0 0) ((w2.alloc (.cells (madeCells #[.bool false] L.length) 4)).alloc (.cells #[] 2))) := by
      refine ⟨(hrm.alloc _).congr (fun i _ => ?_), ⟨by simp [poS], by simp [poS], Or.inr ⟨w2.heap.size + 1, 0, #[], rfl, Nat.le_refl _, ?_, Nat.zero_le _, Nat.zero_le _, rfl, fun i hi => absurd hi (by simp [poS])⟩⟩, hb3⟩
      · have : hasB (poS (adjB L) L.length 0) (i : Int) = false := hasB_false.2 (by simp [poS])
        rw [this]
      · have := heap_alloc_new (w2.alloc (.cells (madeCells #[.bool false] L.length) 4)) (.cells #[] 2)
        rw [size_alloc1] at this
        exact this
    have HBW : Hid (∀ W, Below w2.heap.size w2 W → Below w.heap.size w W) := fun W hb => HB2.out.trans (hb.mono HB2.out.size)
    have HKB : Hid (∀ W, Below w2.heap.size w2 W → W.cell? ⟨w.heap.size, 0, none⟩ = some (.slice a0 L.length c0)) := fun W hb => (HX2.out.keep hb).1
    have hz2' : w.heap.size ≤ w2.heap.size := HB2.out.size
    clear hb2 hrm hb3 kb1
    go_wp2_with fail
    go_loopw [5] (fun ov wr => ∃ k : Nat, k ≤ L.length ∧ (poS (adjB L) L.length k).length = k ∧ PoW w2 L.length (poS (adjB L) L.length k) ov wr ∧ w2.heap.size + 1 ≤ wr.heap.size) (fun ov _ => L.length - lenO ov)
    case atStart => exact ⟨0, Nat.zero_le _, rfl, HW0.out, by simp⟩
    case round =>
      obtain ⟨k, hk, hyl, hw, hzr⟩ := hrel
      obtain ⟨ys, hys⟩ : ∃ ys, ys = poS (adjB L) L.length k := ⟨_, rfl⟩
      rw [← hys] at hyl hw
      obtain ⟨a5, c5, e5⟩ := hw.out.row.slice
      rw [hyl] at e5
      subst e5
      have HYL := Lib.hid hyl
      have HYS := Lib.hid hys
      have HW := Lib.hid hw
      have HZR := Lib.hid hzr
      have kb := HKB.out _ hw.bel
      clear hw hyl hys hzr
      go_wp2_with fail
      refine (l1Size_any _ L _ (HGK.out _ (HBW.out _ HW.out.bel))).mono ?_
      rintro e w5 ⟨rfl, hb5⟩
      have HW5 := Lib.hid (HW.out.keep hb5)
      have HZ5 : Hid (w2.heap.size + 1 ≤ w5.heap.size) := Nat.le_trans HZR.out hb5.size
      clear hb5 kb HW HZR
      by_cases hlt : k < L.length
      · obtain ⟨p, hp⟩ : ∃ p, p = mayGo (adjB L) ys := ⟨_, rfl⟩
        have HPE := Lib.hid hp
        go_wp2_with fail
        go_loopw [6] (fun i wr => ∃ q : Nat, q ≤ L.length ∧ i = .int .i64 q ∧ (∀ u, u < q → p u = false) ∧ PoW w2 L.length ys (.slice a5 k c5) wr ∧ w2.heap.size + 1 ≤ wr.heap.size) (fun i _ => L.length - (intOf i).toNat)
        case atStart => exact ⟨0, Nat.zero_le _, rfl, fun u hu => absurd hu (by omega), HW5.out, HZ5.out⟩
        case round =>
          rename World => w6
          obtain ⟨q, hq, rfl, hno, hw6, hz6⟩ := hrel
          have HNO := Lib.hid hno
          have HW6 := Lib.hid hw6
          have HZ6 := Lib.hid hz6
          have HCB : Hid (∀ W, Below w6.heap.size w6 W → Below w2.heap.size w2 W) := fun W hb => HW6.out.bel.trans (hb.mono HW6.out.bel.size)
          have HC : Hid (Below w6.heap.size w6 w6.drew) := (Below.refl _ _).drew
          have kc := HKB.out _ (HCB.out _ HC.out)
          by_cases hql : q < L.length
          · have hqI : (q : Int) < (L.length : Int) := by omega
            have HKG : Hid (∀ W, Below w6.heap.size w6 W → W.cell? ⟨w2.heap.size, q, none⟩ = some (.bool (hasB ys (q : Int)))) := fun W hb => (rowIs_below HW6.out.gone hb).cell hql
            have HPQ : Hid (p q = (!hasB ys (q : Int) && (missN (adjB L) (listM (pm (leftB (adjB L) ys q))) == 0))) := by show _ = _; rw [HPE.out]; rfl
            by_cases hg : hasB ys (q : Int) = true
            · have kg := HKG.out _ HC.out
              rw [hg] at kg
              have HPF : Hid (p q = false) := by show _ = _; rw [HPQ.out, hg]; rfl
              have HKG2 : Hid (∀ W, Below w6.heap.size w6 W → W.cell? ⟨w2.heap.size, q, none⟩ = some (.bool true)) := fun W hb => by have := HKG.out W hb; rw [hg] at this; exact this
              have kl := fun z : Later w6 => z.cell (HKB.out _ HW6.out.bel)
              have kl1 := fun z : Later w6 => z.cell (HKG2.out _ (Below.refl _ _))
              have hcall : Hid (∀ z : Later w6, Calls Try.prog 60 #[.agg #[.slice a0 L.length c0]] z.at fun e w5 => e = .returned (.int .i64 (L.length : Int)) ∧ ∃ t : Later w6, w5 = t.at) :=
                fun z => Calls.later (l1Size_any _ L _ (HGK.out _ (HBW.out _ (HCB.out _ z.bel))))
              clear hg hno hw6 hz6 hp kc kg
              go_wp2_with fail
              refine wp_region_later (by kernel_rfl) (by kernel_rfl) ?_
              repeat (go_big_quiet_step ((go_at_call 60; exact hcall.out _)))
              refine wpQuiet_nil ?_
              rintro _ ⟨z, rfl⟩
              have HZZ := Lib.hid z.bel
              generalize z.at = w7 at HZZ ⊢
              clear kl kl1 hcall
              go_wp2
              go_roundw
              case rel => exact ⟨q + 1, by omega, by go_num, fun u hu => by rcases Nat.lt_succ_iff_lt_or_eq.1 hu with h | h; exact HNO.out u h; subst h; exact HPF.out, HW6.out.keep HZZ.out, Nat.le_trans HZ6.out HZZ.out.size⟩
              case measure => simp [intOf]; omega
            · have hg' : hasB ys (q : Int) = false := by simpa using hg
              have kg := HKG.out _ HC.out
              rw [hg'] at kg
              have HKG2 : Hid (∀ W, Below w6.heap.size w6 W → W.cell? ⟨w2.heap.size, q, none⟩ = some (.bool false)) := fun W hb => by have := HKG.out W hb; rw [hg'] at this; exact this
              have HLE : Hid (nthR L q = listM (pm (adjB L q))) := by
                have h := adjL_nth (n := L.length) (adjB L) hql
                rw [graph_adjL HGP.out] at h; exact h
              have HLF : Hid (∀ W, Below w6.heap.size w6 W → Calls Try.prog 77 #[.agg #[.slice a0 L.length c0], .int .i64 (q : Int), .slice (some ⟨w2.heap.size, 0, none⟩) L.length L.length] W (GaveRow W (listM (pm (leftB (adjB L) ys q))))) := fun W hb => by
                have h := l7Left_any (.slice a0 L.length c0) L q w2.heap.size (fun i => hasB ys (i : Int)) W (HGK.out _ (HBW.out _ (HCB.out _ hb))) (HGP.out.2.1 q hql).1 hz.2 hql (rowIs_below HW6.out.gone hb)
                rw [HLE.out, stay_pm] at h
                exact h
              have HSR : Hid (∀ u, leftB (adjB L) ys q u = true → u < L.length) := leftB_range HREL.out ys q
              obtain ⟨t, ht⟩ : ∃ t, t = (missN (adjB L) (listM (pm (leftB (adjB L) ys q))) == 0) := ⟨_, rfl⟩
              have HTE := Lib.hid ht
              have HPT : Hid (p q = t) := by show _ = _; rw [HPQ.out, hg', ← ht]; simp
              clear hg hg' hno hw6 hz6 hp ht
              go_wp2_with fail
              go_region_law (first
                | (go_simp; go_at_call 60; refine (l1Size_any _ L _ (HGK.out _ (HBW.out _ (HCB.out _ HC.out)))).mono ?_; rintro e w7 ⟨rfl, hb7⟩; have HD : Hid (Below w6.heap.size w6 w7) := HC.out.trans (hb7.mono HC.out.size); clear HC kc kg; have HC := Lib.hid HD.out; clear HD; have kc := HKB.out _ (HCB.out _ HC.out); have kg := HKG2.out _ HC.out; clear hb7)
                | (go_simp; go_at_call 77; refine (HLF.out _ HC.out).mono ?_; rintro e w7 ⟨n7, a7, c7, rfl, ho7, hb7⟩; have HD : Hid (Below w6.heap.size w6 w7) := HC.out.trans (hb7.mono HC.out.size); clear HC kc kg; have HC := Lib.hid HD.out; clear HD; have kc := HKB.out _ (HCB.out _ HC.out); have kg := HKG2.out _ HC.out; have HR7 := Lib.hid ho7.row; clear ho7 hb7)
                | (go_simp; go_at_call 91; refine (l8Clique_any _ _ L _ (adjB L) _ (HGK.out _ (HBW.out _ (HCB.out _ HC.out))) HR7.out (listM_len _) (left_vtx HSR.out) (left_adj HGP.out HSR.out)).mono ?_; rintro e w8 ⟨rfl, hb8⟩; rw [← HTE.out]; have HD : Hid (Below w6.heap.size w6 w8) := HC.out.trans (hb8.mono HC.out.size); clear HC kc kg; have HC := Lib.hid HD.out; clear HD; have kc := HKB.out _ (HCB.out _ HC.out); have kg := HKG2.out _ HC.out; clear hb8 HR7))
              all_goals (
                have HW8 := Lib.hid (HW6.out.keep HC.out)
                have HZ8 : Hid (w2.heap.size + 1 ≤ w8.heap.size) := Nat.le_trans HZ6.out HC.out.size
                clear kg HC
                cases t)
              all_goals (
                first
                | (
                  clear kc
                  go_wp2
                  go_roundw
                  case rel => exact ⟨q + 1, by omega, by go_num, fun u hu => by rcases Nat.lt_succ_iff_lt_or_eq.1 hu with h | h; exact HNO.out u h; subst h; exact HPT.out, HW8.out, HZ8.out⟩
                  case measure => simp [intOf]; omega)
                | (
                  have HFI : Hid (findTo (mayGo (adjB L) ys) L.length = q) := by
                    show _ = _
                    rw [← HPE.out]
                    exact findTo_at hql HPT.out HNO.out
                  go_wp2_with fail
                  refine (l1Size_any _ L _ (HGK.out _ (HBW.out _ HW8.out.bel))).mono ?_
                  rintro e w9 ⟨rfl, hb9⟩
                  have hw9 := HW8.out.keep hb9
                  have HZ9 : Hid (w2.heap.size + 1 ≤ w9.heap.size) := Nat.le_trans HZ8.out hb9.size
                  have kg9 := hw9.gone.cell hql
                  have fg9 := hw9.gone.frozen q
                  have hne : ((q : Int) == (L.length : Int)) = false := by rw [beq_eq_false_iff_ne]; omega
                  obtain ⟨hf1, hf2, hf3⟩ := hw9.flag q
                  have HF1 := Lib.hid hf1
                  have HF2 := Lib.hid hf2
                  have HF3 := Lib.hid hf3
                  have HZT : Hid (w2.heap.size + 1 ≤ (w9.setCell ⟨w2.heap.size, q, none⟩ (.bool true)).heap.size) := by show _ ≤ _; rw [size_setCell1]; exact HZ9.out
                  have HWO : Hid ((w9.setCell ⟨w2.heap.size, q, none⟩ (.bool true)).ownsRow (w2.heap.size + 1) 2 1 (.slice a5 k c5) k (ys.map (Value.int .i64))) := by
                    have h := hf2.owns
                    rw [HYL.out] at h
                    exact h
                  clear hb9 hw9 hf1 hf2 hf3 kc HW8
                  go_wp2_with (at_builtin; refine wpList_append_own _ rfl (.tmp 49) (.tmp 51) 31 rfl (w2.heap.size + 1) 2 i0 (.int .i64 0) 1 8 Try.underlying31 hi hz0 hz1 hz2 rfl (by decide) _ _ _ rfl (HWO.out.alloc _) ⟨w9.heap.size, 0, none⟩ 1 1 [.int .i64 (q : Int)] rfl rfl ?d1 ?d2 ?d3 ?d4 ?d5 ?_)
                  case d1 =>
                    intro j u hj
                    match j, hj with
                    | 0, hj =>
                      simp at hj; subst hj
                      have h := BoxAt.new (w9.setCell ⟨w2.heap.size, q, none⟩ (.bool true)) (.int .i64 (q : Int)) 2
                      rw [size_setCell1] at h
                      simpa [Addr.add] using h.1
                  case d2 => intro u hu; simp at hu; subst hu; rfl
                  case d3 => unfold maxLen; omega
                  case d4 => omega
                  case d5 => have := HZ9.out; simp; omega
                  intro v12 w12 hown12 hgrow12 _
                  have hb12 : Below (w2.heap.size + 1) (w9.setCell ⟨w2.heap.size, q, none⟩ (.bool true)) w12 := ((Below.refl _ _).alloc HZT.out _).grown hgrow12 (by have := HZ9.out; simp; omega) (fun j hj => (HWO.out.lt j hj).1)
                  have HZ12 : Hid (w2.heap.size + 1 ≤ w12.heap.size) := Nat.le_trans HZT.out hb12.size
                  have HEND : Hid (PoW w2 L.length (poS (adjB L) L.length (k + 1)) v12 w12 ∧ (poS (adjB L) L.length (k + 1)).length = k + 1) := by
                    have hfi := HFI.out
                    rw [HYS.out] at hfi
                    have e := poS_next hfi hql
                    rw [← HYS.out] at e
                    rw [e]
                    refine ⟨⟨rowIs_belowB HF1.out hb12 (by omega), ?_, HF3.out.trans (hb12.mono (by omega))⟩, by rw [List.length_append, HYL.out]; rfl⟩
                    exact OwnRow.of_ownsRow (xs := ys ++ [(q : Int)]) (n := k + 1) (by simpa using hown12) (by rw [List.length_append, HYL.out, List.length_singleton]; unfold maxLen; omega) (fun z hz => by
                      rcases List.mem_append.1 hz with hz | hz
                      · exact HF2.out.1 z hz
                      · rw [List.mem_singleton] at hz; subst hz; unfold I64; omega)
                  clear hown12 hgrow12 hb12 kg9 fg9
                  go_wp2
                  go_roundw
                  case rel => exact ⟨k + 1, by omega, HEND.out.2, HEND.out.1, HZ12.out⟩
                  case measure =>
                    obtain ⟨a13, c13, e13⟩ := HEND.out.1.out.row.slice
                    rw [HEND.out.2] at e13
                    subst e13
                    simp [lenO]; omega))
          · obtain rfl : q = L.length := by omega
            have HFI : Hid (findTo (mayGo (adjB L) ys) L.length = L.length) := by
              show _ = _
              rw [← HPE.out]
              exact findTo_none HNO.out
            have HPO : Hid (pfB (adjB L) L.length = false) := by
              have hfi := HFI.out
              rw [HYS.out] at hfi
              exact poS_no hlt hfi
            have hcall : Hid (∀ z : Later w6, Calls Try.prog 60 #[.agg #[.slice a0 L.length c0]] z.at fun e w5 => e = .returned (.int .i64 (L.length : Int)) ∧ ∃ t : Later w6, w5 = t.at) :=
              fun z => Calls.later (l1Size_any _ L _ (HGK.out _ (HBW.out _ (HCB.out _ z.bel))))
            have kl := fun z : Later w6 => z.cell (HKB.out _ HW6.out.bel)
            clear hno hw6 hz6 hp kc
            go_wp2_with fail
            refine wp_region_later (by kernel_rfl) (by kernel_rfl) ?_
            repeat (go_big_quiet_step ((go_at_call 60; exact hcall.out _)))
            refine wpQuiet_nil ?_
            rintro _ ⟨z, rfl⟩
            have HZZ := Lib.hid z.bel
            generalize z.at = w7 at HZZ ⊢
            clear kl hcall
            have kc7 := HKB.out _ (HCB.out _ HZZ.out)
            go_wp2_with fail
            refine (l1Size_any _ L _ (HGK.out _ (HBW.out _ (HCB.out _ HZZ.out)))).mono ?_
            rintro e w9 ⟨rfl, hb9⟩
            have HB9 : Hid (Below w.heap.size w w9) := (HBW.out _ (HCB.out _ HZZ.out)).trans (hb9.mono (by have := (HBW.out _ (HCB.out _ HZZ.out)).size; omega))
            have heq : ((L.length : Int) == (L.length : Int)) = true := by simp
            clear hb9 kc7
            go_wp2
            go_ret2
            have hno := pf_no (L := L) (fun h => by have := HPO.out; rw [h.2] at this; cases this)
            rw [hno.1, hno.2]
            exact ⟨0, _, 0, rfl, own_none2 w9 _ HB9.out.size, HB9.out.alloc HB9.out.size _⟩
      · obtain rfl : k = L.length := by omega
        have HPO : Hid (pfB (adjB L) L.length = true) := by
          unfold pfB
          rw [← HYS.out]
          exact decide_eq_true HYL.out
        go_wp2
        go_ret2
        obtain ⟨p1, p2⟩ := pf_yes HGP.out HPO.out
        rw [p1, p2, ← HYS.out]
        exact ⟨_, _, _, rfl, HW5.out.out.mono (by omega), HBW.out _ HW5.out.bel⟩
  · have HG0 := Lib.hid hG
    rw [decide_eq_false hG]
    clear hG
    go_wp2
    go_ret2
    have hno := pf_no (L := L) (fun h => HG0.out h.1)
    rw [hno.1, hno.2]
    exact ⟨0, _, 0, rfl, own_none2 w1 _ HB1.out.size, HB1.out.alloc HB1.out.size _⟩

theorem specChordalIn_any (v : Value) (L : List (List Int)) (w : World) (h : GridAt w v L) : Calls Try.prog 20 #[.agg #[v]] w fun e w' => e = .returned (.bool (poV L)) ∧ Below w.heap.size w w' := by
  obtain ⟨a0, c0, rfl⟩ := h.slice
  have HB0 : Hid (Below w.heap.size w (w.alloc (.cells #[.slice a0 L.length c0] 29))) := (Below.refl _ _).alloc (Nat.le_refl _) _
  have hg := h.keep HB0.out
  clear h
  go_enter Try.func20, Try.ntmps20
  go_wp2_with fail
  refine (specPerfectOrder_any _ L _ hg).mono ?_
  rintro e w1 ⟨m, a, c, rfl, _, hb1⟩
  have HB1 : Hid (Below w.heap.size w w1) := HB0.out.trans (hb1.mono HB0.out.size)
  clear hb1 hg
  go_wp2
  go_ret
  exact ⟨rfl, HB1.out⟩
/-- A filled graph is chordal. -/
theorem fill_chordal {L : List (List Int)} {xs : List Int} (hG : GraphP L) (hO : OrdP xs L.length) : poV (adjL L.length (fillX (adjB L) xs)) = true := by
  have hA := adjB_rel hG
  have hF := fillX_rel hA xs
  have hGF := hF.graph hG.1
  have hB : ∀ i j, adjB (adjL L.length (fillX (adjB L) xs)) i j = fillX (adjB L) xs i j := by
    intro i j
    by_cases hi : i < L.length
    · by_cases hj : j < 16
      · exact adjB_adjL hGF hi hj
      · have h1 : adjB (adjL L.length (fillX (adjB L) xs)) i j = false := by
          cases h : adjB (adjL L.length (fillX (adjB L) xs)) i j with
          | false => rfl
          | true => have := (adjB_range hGF h).2; rw [adjL_len] at this; have := hG.1; omega
        have h2 : fillX (adjB L) xs i j = false := by
          cases h : fillX (adjB L) xs i j with
          | false => rfl
          | true => have := (hF.range i j h).2; have := hG.1; omega
        rw [h1, h2]
    · have h1 : adjB (adjL L.length (fillX (adjB L) xs)) i j = false := by
        cases h : adjB (adjL L.length (fillX (adjB L) xs)) i j with
        | false => rfl
        | true => have := (adjB_range hGF h).1; rw [adjL_len] at this; omega
      have h2 : fillX (adjB L) xs i j = false := by
        cases h : fillX (adjB L) xs i j with
        | false => rfl
        | true => have := (hF.range i j h).1; omega
      rw [h1, h2]
  refine (pf_yes hGF ?_).2
  rw [adjL_len, show adjB (adjL L.length (fillX (adjB L) xs)) = fillX (adjB L) xs from by funext i j; exact hB i j]
  exact fill_po hA hG.1.2 hO

end Go.Proofs.Ytgnmggjihkfnoaa

/- The walk of FnFill. -/
namespace Go.Proofs.Ytgnmggjihkfnoaa
open Go.RowKit

theorem bigF_any (a : Option Addr) (n cap : Nat) (w : World) : Calls Try.prog 13 #[.slice a n cap] w fun e w' => e = .returned (.bool (decide ((4096 : Int) < (n : Int)))) ∧ w = w' := by
  go_enter Try.func13, Try.ntmps13
  go_wp2
  go_ret
  exact ⟨rfl, rfl⟩

theorem adj_rel {n : Nat} {F : Nat → Nat → Bool} (hF : RelP n F) (hn : 1 ≤ n ∧ n ≤ 16) : adjB (adjL n F) = F := by
  have hGF := hF.graph hn
  funext i j
  by_cases hi : i < n
  · by_cases hj : j < 16
    · exact adjB_adjL hGF hi hj
    · have h1 : adjB (adjL n F) i j = false := by
        cases h : adjB (adjL n F) i j with
        | false => rfl
        | true => have := (adjB_range hGF h).2; rw [adjL_len] at this; omega
      have h2 : F i j = false := by
        cases h : F i j with
        | false => rfl
        | true => have := (hF.range i j h).2; omega
      rw [h1, h2]
  · have h1 : adjB (adjL n F) i j = false := by
      cases h : adjB (adjL n F) i j with
      | false => rfl
      | true => have := (adjB_range hGF h).1; rw [adjL_len] at this; omega
    have h2 : F i j = false := by
      cases h : F i j with
      | false => rfl
      | true => have := (hF.range i j h).1; omega
    rw [h1, h2]
/-- All that the law asks of a filled graph. -/
theorem fill_facts {L : List (List Int)} {xs : List Int} (hG : GraphP L) (hO : OrdP xs L.length) (F : List (List Int)) (hF : F = adjL L.length (fillX (adjB L) xs)) :
    GraphP F ∧ F.length = L.length ∧ orderB L xs = true ∧ fillL L xs = F ∧ orderB F xs = true ∧ fillL F xs = F ∧ perfB F xs = true ∧ poV F = true ∧ widthI F xs = widthI L xs ∧ moreI L xs = manyN F - manyN L ∧
      ∀ e ∈ edgesL L, ∃ u v : Nat, e = [(u : Int), (v : Int)] ∧ u < 16 ∧ v < 16 ∧ edgeB F (u : Int) (v : Int) = true := by
  have hA := adjB_rel hG
  have hR := fillX_rel hA xs
  have hGF : GraphP F := by rw [hF]; exact hR.graph hG.1
  have hlen : F.length = L.length := by rw [hF, adjL_len]
  have hoL : orderB L xs = true := by unfold orderB; rw [decide_eq_true hG, decide_eq_true hO]; rfl
  have hoF : orderB F xs = true := by unfold orderB; rw [decide_eq_true hGF, hlen, decide_eq_true hO]; rfl
  have hadj : adjB F = fillX (adjB L) xs := by rw [hF]; exact adj_rel hR hG.1
  have hfF : fillL F xs = F := by
    unfold fillL
    rw [if_pos hoF, hlen, hadj, fill_again hA hO, ← hF]
  refine ⟨hGF, hlen, hoL, by unfold fillL; rw [if_pos hoL, hF], hoF, hfF, ?_, by rw [hF]; exact fill_chordal hG hO, ?_, by unfold moreI; rw [if_pos hoL, hF], ?_⟩
  · unfold perfB moreI
    rw [if_pos hoF, hlen, hadj, fill_again hA hO, ← hF]
    simp
  · unfold widthI
    rw [if_pos hoF, if_pos hoL, hlen, hadj]
    congr 1
    unfold widthX
    exact maxTo_congr (fun v _ => szB_congr (fun j _ => later_again hA hO v j))
  · intro e he
    unfold edgesL at he
    rw [if_pos hG] at he
    obtain ⟨u, hu, x, hx, hlt, rfl⟩ := (edgesTo_mem L.length e).1 he
    have hz := hG.1
    have hs := (hG.2.1 u hu).1
    have hb := hs.bounds x hx
    obtain ⟨v, rfl⟩ : ∃ v : Nat, x = (v : Int) := ⟨x.toNat, by omega⟩
    have hv : v < L.length := by omega
    refine ⟨u, v, rfl, by omega, by omega, ?_⟩
    have h1 : adjB L u v = true := by
      rw [← adjB_has hG hu (by omega)]; exact (hasB_mem _ _).2 hx
    rw [edgeB_adj hGF (by rw [hlen]; exact hu) (by rw [hlen]; exact hv), hadj]
    exact fill_old _ _ h1

set_option maxHeartbeats 8000000 in
set_option maxRecDepth 100000 in
theorem lawFill (a0 : Option Addr) (n0 c0 : Nat) (w : World) (hb : n0 ≤ 4096 → BytesAt w w.heap.size (.slice a0 n0 c0) n0) :
    Calls Try.prog 3 #[.slice a0 n0 c0] w fun e w' => e = .returned (.bool true) ∧ Below w.heap.size w w' := by
  have HBY := Lib.hid hb
  clear hb
  go_enter Try.func3, Try.ntmps3
  go_wp2_with fail
  refine (bigF_any _ _ _ _).mono ?_
  rintro e w' ⟨rfl, rfl⟩
  by_cases hbig : (4096 : Int) < (n0 : Int)
  · rw [decide_eq_true hbig]
    go_wp2
    go_ret
    exact ⟨rfl, Below.refl _ _⟩
  rw [decide_eq_false hbig]
  have hby0 := HBY.out (by omega)
  have HB0 := Lib.hid hby0
  clear hby0 HBY hbig
  go_wp2_with fail
  refine (roll_any _ n0 806 w HB0.out).mono ?_
  rintro e w1 ⟨rfl, hd1, hb1⟩
  obtain ⟨d, hdd⟩ : ∃ d, d = w.heap.size := ⟨_, rfl⟩
  rw [← hdd] at hd1 HB0 ⊢
  have HDD := Lib.hid hdd
  have HD1 := Lib.hid hd1
  have hdl1 : d < w1.heap.size := hd1.lt
  have HY1 : Hid (BytesAt w1 d (.slice a0 n0 c0) n0) := by have := HB0.out.keepB hb1 (by omega); exact this
  have HW1 : Hid (Below d w w1) := by rw [hdd]; exact hb1
  clear hd1 hb1 hdd
  go_wp2_with fail
  refine (w5Graph_any d n0 8 _ w1 HD1.out HY1.out (by omega) (by omega)).mono ?_
  rintro e w2 ⟨L, m2, a2, c2, rfl, hG, hL8, ho2, hd2, ht2⟩
  obtain rfl : m2 = L.length := by
    obtain ⟨a3, c3, e3⟩ := ho2.grid.slice
    simp only [Value.slice.injEq] at e3
    exact e3.2.1
  have hz := hG.1
  have HG := Lib.hid hG
  have hz2 : w1.heap.size ≤ w2.heap.size := ht2.size
  have hbx : Below w2.heap.size w2 (w2.alloc (.cells #[.slice a2 L.length c2] 29)) := (Below.refl _ _).alloc (Nat.le_refl _) _
  have HX2 : Hid (BoxAt (w2.alloc (.cells #[.slice a2 L.length c2] 29)) w2.heap.size (.slice a2 L.length c2)) := BoxAt.new _ _ _
  have HOG2 : Hid (OwnGrid 2 31 (w2.alloc (.cells #[.slice a2 L.length c2] 29)) w1.heap.size (.slice a2 L.length c2) L) := ho2.keep hbx
  have HD2 := Lib.hid (hd2.keep hbx)
  have HT2 := Lib.hid (ht2.under hbx hz2)
  have kb2 := HX2.out.1
  clear ho2 hd2 ht2 hbx hG
  go_wp2_with fail
  generalize (w2.alloc (.cells #[.slice a2 L.length c2] 29)) = w3 at HX2 HOG2 HD2 HT2 kb2 ⊢
  refine (w5Order_any d n0 L.length _ w3 HD2.out (HT2.out.bytes HY1.out (Nat.le_of_lt hdl1)) hz.2).mono ?_
  rintro e w4 ⟨xs, ax, kx, cx, rfl, hpx, hox, hd4, ht4⟩
  obtain rfl : kx = L.length := by
    obtain ⟨a3, c3, e3⟩ := hox.row.slice
    simp only [Value.slice.injEq] at e3
    rw [e3.2.1]; exact hpx.1
  have HX4 : Hid (BoxAt w4 w2.heap.size (.slice a2 L.length c2)) := HX2.out.touched ht4 (by omega) HX2.out.lt
  have HGR4 : Hid (GridAt w4 (.slice a2 L.length c2) L) := (HOG2.out.touched ht4 (by omega)).grid
  have HR4 := Lib.hid hox.row
  have HT4 := Lib.hid (HT2.out.trans ht4)
  have hdl3 : d < w3.heap.size := HD2.out.lt
  have hdl4 : d < w4.heap.size := by have := ht4.size; omega
  have HOP : Hid (OrdP xs L.length) := hpx.ord
  obtain ⟨F, hF⟩ : ∃ F, F = adjL L.length (fillX (adjB L) xs) := ⟨_, rfl⟩
  obtain ⟨f1, f2, f3, f4, f5, f6, f7, f8, f9, f10, f11⟩ := fill_facts HG.out HOP.out F hF
  have F1 := Lib.hid f1
  have F2 := Lib.hid f2
  have F3 := Lib.hid f3
  have F4 := Lib.hid f4
  have F5 := Lib.hid f5
  have F6 := Lib.hid f6
  have F7 := Lib.hid f7
  have F8 := Lib.hid f8
  have F9 := Lib.hid f9
  have F10 := Lib.hid f10
  have F11 := Lib.hid f11
  have HFB : Hid (∀ W, Below w4.heap.size w4 W → Below w.heap.size w W) := fun W hb => by
    have h1 := (HT4.out.below (Nat.le_of_lt hdl1))
    have h2 : Below d w w4 := HW1.out.trans h1
    rw [← HDD.out]
    exact h2.trans (hb.mono (Nat.le_of_lt hdl4))
  have HKG : Hid (∀ W, Below w4.heap.size w4 W → W.cell? ⟨w2.heap.size, 0, none⟩ = some (.slice a2 L.length c2)) := fun W hb => (HX4.out.keep hb).1
  have HGG : Hid (∀ W, Below w4.heap.size w4 W → GridAt W (.slice a2 L.length c2) L) := fun W hb => HGR4.out.keep hb
  have HGX : Hid (∀ W, Below w4.heap.size w4 W → RowAt W (.slice ax L.length cx) xs) := fun W hb => HR4.out.keep hb
  have kg4 := HX4.out.1
  clear hpx hox hd4 ht4 kb2 HX2 HOG2 HD2 HT2 f1 f2 f3 f4 f5 f6 f7 f8 f9 f10 f11 hF
  go_wp2_with fail
  refine (implFillOf_any _ _ L xs _ HGR4.out HR4.out).mono ?_
  rintro e w5 ⟨m5, a5, c5, rfl, ho5, hb5⟩
  rw [F4.out] at ho5
  rw [F3.out]
  have HFV : Hid (∀ W, Below w5.heap.size w5 W → GridAt W (.slice a5 m5 c5) F) := fun W hb => ho5.grid.keep hb
  have hbx6 : Below w5.heap.size w5 (w5.alloc (.cells #[.slice a5 m5 c5] 29)) := (Below.refl _ _).alloc (Nat.le_refl _) _
  have HB6 : Hid (Below w4.heap.size w4 (w5.alloc (.cells #[.slice a5 m5 c5] 29))) := hb5.alloc hb5.size _
  have HX6 : Hid (BoxAt (w5.alloc (.cells #[.slice a5 m5 c5] 29)) w5.heap.size (.slice a5 m5 c5)) := BoxAt.new _ _ _
  have HBX6 := Lib.hid hbx6
  have k6 := HX6.out.1
  clear ho5 hb5 hbx6 kg4
  go_wp2_with fail
  generalize (w5.alloc (.cells #[.slice a5 m5 c5] 29)) = w6 at HB6 HX6 HBX6 k6 ⊢
  have HF6 : Hid (∀ W, Below w6.heap.size w6 W → GridAt W (.slice a5 m5 c5) F) := fun W hb => HFV.out W (HBX6.out.trans (hb.mono HBX6.out.size))
  have HK6 : Hid (∀ W, Below w6.heap.size w6 W → W.cell? ⟨w5.heap.size, 0, none⟩ = some (.slice a5 m5 c5)) := fun W hb => (HX6.out.keep hb).1
  have H46 : Hid (∀ W, Below w6.heap.size w6 W → Below w4.heap.size w4 W) := fun W hb => HB6.out.trans (hb.mono HB6.out.size)
  clear HFV HX6 HBX6
  refine (specGraphOk_any _ F _ (HF6.out _ (Below.refl _ _))).mono ?_
  rintro e w7 ⟨rfl, hb7⟩
  rw [decide_eq_true F1.out]
  have H7 : Hid (Below w6.heap.size w6 w7) := hb7
  have k7 := HK6.out _ hb7
  clear hb7 k6
  go_wp2_with fail
  refine (implPerfectIn_any _ _ F xs _ (HF6.out _ H7.out) (HGX.out _ (H46.out _ H7.out))).mono ?_
  rintro e w8 ⟨rfl, hb8⟩
  rw [F7.out]
  have H8 : Hid (Below w6.heap.size w6 w8) := H7.out.trans (hb8.mono H7.out.size)
  have k8 := HK6.out _ H8.out
  clear hb8 k7
  go_wp2_with fail
  refine (specChordalIn_any _ F _ (HF6.out _ H8.out)).mono ?_
  rintro e w9 ⟨rfl, hb9⟩
  rw [F8.out]
  have H9 : Hid (Below w6.heap.size w6 w9) := H8.out.trans (hb9.mono H8.out.size)
  have k9 := HK6.out _ H9.out
  clear hb9 k8
  go_wp2_with fail
  refine (implFillOf_any _ _ F xs _ (HF6.out _ H9.out) (HGX.out _ (H46.out _ H9.out))).mono ?_
  rintro e w10 ⟨m10, a10, c10, rfl, ho10, hb10⟩
  rw [F6.out] at ho10
  rw [F5.out]
  have H10 : Hid (Below w6.heap.size w6 (w10.alloc (.cells #[.slice a10 m10 c10] 29))) := (H9.out.trans (hb10.mono H9.out.size)).alloc (by have := H9.out.size; have := hb10.size; omega) _
  have HA11 : Hid (GridAt (w10.alloc (.cells #[.slice a10 m10 c10] 29)) (.slice a10 m10 c10) F) := ho10.grid.keep ((Below.refl _ _).alloc (Nat.le_refl _) _)
  have HX11 : Hid (BoxAt (w10.alloc (.cells #[.slice a10 m10 c10] 29)) w10.heap.size (.slice a10 m10 c10)) := BoxAt.new _ _ _
  have kg11 := HKG.out _ (H46.out _ H10.out)
  clear ho10 hb10 k9
  go_wp2_with fail
  generalize (w10.alloc (.cells #[.slice a10 m10 c10] 29)) = w11 at H10 HA11 HX11 kg11 ⊢
  refine (specEdgesOf_any _ L _ (HGG.out _ (H46.out _ H10.out))).mono ?_
  rintro e w12 ⟨m12, a12, c12, rfl, ho12, hb12⟩
  obtain rfl : m12 = (edgesL L).length := by
    obtain ⟨a3, c3, e3⟩ := ho12.grid.slice
    simp only [Value.slice.injEq] at e3
    exact e3.2.1
  have hel := (edgesL_small L).1
  have HGE := Lib.hid ho12.grid
  have H12 : Hid (Below w6.heap.size w6 w12) := H10.out.trans (hb12.mono H10.out.size)
  have HA12 := Lib.hid (HA11.out.keep hb12)
  have HX12 := Lib.hid (HX11.out.keep hb12)
  have HEA : Hid (∀ k, k < (edgesL L).length → ∃ u v : Nat, nthR (edgesL L) k = [(u : Int), (v : Int)] ∧ u < 16 ∧ v < 16 ∧ edgeB F (u : Int) (v : Int) = true) := fun k hk => F11.out _ (nthR_mem hk)
  obtain ⟨E, hE⟩ : ∃ E, E = edgesL L := ⟨_, rfl⟩
  rw [← hE] at HGE HEA hel ⊢
  clear ho12 hb12 kg11 hE
  go_wp2_with fail
  go_loopw [11] (fun i wr => ∃ k : Nat, k ≤ E.length ∧ i = .int .i64 k ∧ Below w12.heap.size w12 wr) (fun i _ => E.length - (intOf i).toNat)
  case atStart => exact ⟨0, Nat.zero_le _, rfl, Below.refl _ _⟩
  case round =>
    obtain ⟨k, hk, rfl, hb⟩ := hrel
    have HB := Lib.hid hb
    have H6r : Hid (Below w6.heap.size w6 wr) := H12.out.trans (hb.mono H12.out.size)
    by_cases hlt : k < E.length
    · obtain ⟨u, v, hue, hu, hv, hed⟩ := HEA.out k hlt
      obtain ⟨bg, og, cg, A, C, eg, lg1, lg2, hcg⟩ := (HGE.out.keep hb).pos (by omega)
      simp only [Value.slice.injEq, true_and] at eg
      obtain ⟨rfl, rfl⟩ := eg
      obtain ⟨q1, q2⟩ := hcg k hlt
      rw [hue] at q1 q2
      obtain ⟨bx, ox, cx', ex, lx1, lx2, hcx⟩ := q2.pos (by simp)
      simp only [Value.slice.injEq, List.length_cons, List.length_nil] at ex
      obtain ⟨ex1, _, ex3⟩ := ex
      rw [ex1] at q1
      simp only [List.length_cons, List.length_nil] at q1
      have e0 := hcx 0 (by simp)
      have e1 := hcx 1 (by simp)
      rw [show nth [(u : Int), (v : Int)] 0 = (u : Int) from rfl] at e0
      rw [show nth [(u : Int), (v : Int)] 1 = (v : Int) from rfl] at e1
      rw [Nat.add_zero] at e0
      have kp := HK6.out _ H6r.out
      have hkI : (k : Int) < (E.length : Int) := by omega
      have hcA : Hid (∀ x : Later wr, Calls Try.prog 22 #[.agg #[.slice a5 m5 c5], .int .i64 (u : Int), .int .i64 (v : Int)] x.at fun e w2 => e = .returned (.bool true) ∧ ∃ y : Later wr, w2 = y.at) :=
        fun x => Calls.later ((specEdgeIn_any _ F (u : Int) (v : Int) _ (HF6.out _ (H6r.out.trans (x.bel.mono H6r.out.size))) (by unfold I64; omega) (by unfold I64; omega)).mono fun _ _ ⟨h1, h2⟩ => ⟨by rw [h1, hed], h2⟩)
      have kl := fun x : Later wr => x.cell kp
      have kl1 := fun x : Later wr => x.cell q1
      have kl2 := fun x : Later wr => x.cell e0
      have kl3 := fun x : Later wr => x.cell e1
      clear hb hcg hcx q2 kp q1 e0 e1 hue ex1 ex3
      go_wp2_with fail
      refine wp_region_later (by kernel_rfl) (by kernel_rfl) ?_
      repeat (go_big_quiet_step ((go_at_call 22; exact hcA.out _)))
      refine wpQuiet_nil ?_
      rintro _ ⟨z, rfl⟩
      have HBZ : Hid (Below w12.heap.size w12 z.at) := HB.out.trans (z.bel.mono HB.out.size)
      clear kl kl1 kl2 kl3 hcA
      go_wp2
      go_roundw
      case rel => exact ⟨k + 1, by omega, by go_num, HBZ.out⟩
      case measure => simp [intOf]; omega
    · obtain rfl : k = E.length := by omega
      have ka := (HX12.out.keep hb).1
      have kp := HK6.out _ H6r.out
      have kg := HKG.out _ (H46.out _ H6r.out)
      have HZ : Hid (∀ x : Later wr, Below w6.heap.size w6 x.at) := fun x => H6r.out.trans (x.bel.mono H6r.out.size)
      have HSB : Hid (sameB F F = true) := by show sameB F F = true; unfold sameB; rw [decide_eq_true F1.out, decide_eq_true rfl]; rfl
      have m1 := many_le (L := L)
      have m2 := many_le (L := F)
      have f10 := F10.out
      have f9 := F9.out
      obtain ⟨x1, hx1⟩ : ∃ x1, x1 = manyN L := ⟨_, rfl⟩
      obtain ⟨x2, hx2⟩ : ∃ x2, x2 = manyN F := ⟨_, rfl⟩
      obtain ⟨x3, hx3⟩ : ∃ x3, x3 = widthI L xs := ⟨_, rfl⟩
      have hcA : Hid (∀ x : Later wr, Calls Try.prog 23 #[.agg #[.slice a10 m10 c10], .agg #[.slice a5 m5 c5]] x.at fun e w2 => e = .returned (.bool true) ∧ ∃ y : Later wr, w2 = y.at) :=
        fun x => Calls.later ((implSameGraph_any _ _ F F _ ((HA12.out.keep HB.out).keep x.bel) (HF6.out _ (HZ.out x))).mono fun _ _ ⟨h1, h2⟩ => ⟨by rw [h1, HSB.out], h2⟩)
      have hcB : Hid (∀ x : Later wr, Calls Try.prog 24 #[.agg #[.slice a2 L.length c2], .slice ax L.length cx] x.at fun e w2 => e = .returned (.int .i64 (x2 - x1)) ∧ ∃ y : Later wr, w2 = y.at) :=
        fun x => Calls.later ((implFillMany_any _ _ L xs _ (HGG.out _ (H46.out _ (HZ.out x))) (HGX.out _ (H46.out _ (HZ.out x)))).mono fun _ _ ⟨h1, h2⟩ => ⟨by rw [h1, f10, hx1, hx2], h2⟩)
      have hcC : Hid (∀ x : Later wr, Calls Try.prog 25 #[.agg #[.slice a5 m5 c5]] x.at fun e w2 => e = .returned (.int .i64 x2) ∧ ∃ y : Later wr, w2 = y.at) :=
        fun x => Calls.later ((specManyEdges_any _ F _ (HF6.out _ (HZ.out x))).mono fun _ _ ⟨h1, h2⟩ => ⟨by rw [h1, hx2], h2⟩)
      have hcD : Hid (∀ x : Later wr, Calls Try.prog 25 #[.agg #[.slice a2 L.length c2]] x.at fun e w2 => e = .returned (.int .i64 x1) ∧ ∃ y : Later wr, w2 = y.at) :=
        fun x => Calls.later ((specManyEdges_any _ L _ (HGG.out _ (H46.out _ (HZ.out x)))).mono fun _ _ ⟨h1, h2⟩ => ⟨by rw [h1, hx1], h2⟩)
      have hcE : Hid (∀ x : Later wr, Calls Try.prog 26 #[.agg #[.slice a2 L.length c2], .slice ax L.length cx] x.at fun e w2 => e = .returned (.int .i64 x3) ∧ ∃ y : Later wr, w2 = y.at) :=
        fun x => Calls.later ((implOrderWidth_any _ _ L xs _ (HGG.out _ (H46.out _ (HZ.out x))) (HGX.out _ (H46.out _ (HZ.out x)))).mono fun _ _ ⟨h1, h2⟩ => ⟨by rw [h1, hx3], h2⟩)
      have hcF : Hid (∀ x : Later wr, Calls Try.prog 26 #[.agg #[.slice a5 m5 c5], .slice ax L.length cx] x.at fun e w2 => e = .returned (.int .i64 x3) ∧ ∃ y : Later wr, w2 = y.at) :=
        fun x => Calls.later ((implOrderWidth_any _ _ F xs _ (HF6.out _ (HZ.out x)) (HGX.out _ (H46.out _ (HZ.out x)))).mono fun _ _ ⟨h1, h2⟩ => ⟨by rw [h1, f9, hx3], h2⟩)
      rw [← hx1] at m1
      rw [← hx2] at m2
      have hws : IntKind.i64.wrap (x2 - x1) = x2 - x1 := IntWalk.i64_in _ (by omega)
      have q1 : (x2 - x1 == x2 - x1) = true := by simp
      have q2 : (x3 == x3) = true := by simp
      have kl := fun x : Later wr => x.cell kp
      have kl1 := fun x : Later wr => x.cell kg
      have kl2 := fun x : Later wr => x.cell ka
      clear hb kp kg ka f10 f9 hx1 hx2 hx3
      go_wp2_with fail
      refine wp_region_later (by kernel_rfl) (by kernel_rfl) ?_
      repeat (go_big_quiet_step ((first | (go_at_call 23; (with_reducible exact hcA.out _)) | (go_at_call 24; (with_reducible exact hcB.out _)) | (go_at_call 25; (with_reducible exact hcC.out _)) | (go_at_call 25; (with_reducible exact hcD.out _)) | (go_at_call 26; (with_reducible exact hcE.out _)) | (go_at_call 26; (with_reducible exact hcF.out _)))))
      refine wpQuiet_nil ?_
      rintro _ ⟨z, rfl⟩
      have HFIN : Hid (Below w.heap.size w z.at) := HFB.out _ (H46.out _ (HZ.out z))
      clear kl kl1 kl2 hcA hcB hcC hcD hcE hcF
      go_wp2
      go_ret
      exact ⟨rfl, HFIN.out⟩

end Go.Proofs.Ytgnmggjihkfnoaa
