/- Walks: all of a set are near each other, of the program; CliqueOk. -/
import Derived.Test.YtmfolclpddoplaaEC3
import Derived.Test.YtmfolclpddoplaaQER1
import Derived.Test.YtmfolclpddoplaaQC1

namespace Go.Proofs.Ytmfolclpddoplaa
open Go.RowKit

/-- Who of a set is not near u, u itself aside. -/
def apartM (A : Nat → Nat → Bool) (S : Nat → Bool) (u : Nat) : Nat := pm (fun j => (S j && !A u j) && j != u)
theorem apart_iff {A : Nat → Nat → Bool} {n : Nat} (hA : RelP n A) (hn : n ≤ 16) {S : Nat → Bool} (hS : ∀ u, S u = true → u < n) :
    (∀ i, i < (listM (pm S)).length → apartM A S (vtxN (listM (pm S)) i) = 0) ↔ missN A (listM (pm S)) = 0 := by
  constructor
  · intro h
    refine missN_zero (fun i k hki hil => ?_)
    have h0 := h k (by omega)
    obtain ⟨p1, p2, _⟩ := vtx_listM (S := S) (k := k) (by omega)
    obtain ⟨q1, q2, _⟩ := vtx_listM (S := S) hil
    have hne : vtxN (listM (pm S)) i ≠ vtxN (listM (pm S)) k := fun e => by have := vtx_inj hil (by omega) e; omega
    have hb : (apartM A S (vtxN (listM (pm S)) k)).testBit (vtxN (listM (pm S)) i) = false := by rw [h0]; simp
    unfold apartM at hb
    rw [pm_bit, decide_eq_true q2, Bool.true_and, q1, Bool.true_and] at hb
    have hne2 : (vtxN (listM (pm S)) i != vtxN (listM (pm S)) k) = true := by rw [bne_iff_ne]; exact hne
    rw [hne2, Bool.and_true] at hb
    simpa using hb
  · intro h i hi
    obtain ⟨p1, p2, _⟩ := vtx_listM (S := S) hi
    apply Nat.eq_of_testBit_eq
    intro j
    unfold apartM
    rw [pm_bit, Nat.zero_testBit]
    by_cases hj : j < 16
    · rw [decide_eq_true hj, Bool.true_and]
      cases hs : S j with
      | false => rfl
      | true =>
        by_cases e : j = vtxN (listM (pm S)) i
        · rw [← e]; simp
        · rw [miss_pair hA hn hS h p1 hs (fun e2 => e e2.symm)]; rfl
    · rw [decide_eq_false hj, Bool.false_and]

set_option maxHeartbeats 2000000 in
set_option maxRecDepth 100000 in
theorem clique_any (bn n : Nat) (A : Nat → Nat → Bool) (S : Nat → Bool) (w : World) (h : NetBlk 65 w bn n (fun i => pm (A i))) (hA : RelP n A) (hn : n ≤ 16) (hS : ∀ u, S u = true → u < n) :
    Calls Try.prog 82 #[.pointer (some ⟨bn, 0, none⟩), .int .u32 ((pm S : Nat) : Int)] w fun e w' => e = .returned (.bool (missN A (listM (pm S)) == 0)) ∧ Below w.heap.size w w' := by
  have HIF := Lib.hid (apart_iff hA hn hS)
  obtain ⟨xs, hxs⟩ : ∃ xs, xs = listM (pm S) := ⟨_, rfl⟩
  have hlen := listM_len (pm S)
  have HV : Hid (∀ i, i < xs.length → ∃ u : Nat, nth xs i = (u : Int) ∧ u = vtxN xs i ∧ u < 16) := fun i hi => by
    subst hxs
    obtain ⟨h1, h2, h3⟩ := vtx_listM hi
    exact ⟨_, h3, rfl, h2⟩
  rw [← hxs] at hlen HIF
  have HXS := Lib.hid hxs
  have HN := Lib.hid h
  have hpl : pm S < 65536 := pm_lt _
  rw [← hxs]
  clear h hxs hA hS
  go_enter Try.func82, Try.ntmps82
  go_wp2_with fail
  refine (list_any (pm S) _ hpl).mono ?_
  rintro e w1 ⟨n1, a1, c1, rfl, ho1, hb1⟩
  rw [← HXS.out] at ho1
  obtain ⟨a3, c3, e3⟩ := ho1.row.slice
  simp only [Value.slice.injEq] at e3
  obtain ⟨rfl, rfl, rfl⟩ := e3
  have HO1 := Lib.hid ho1
  have HB1 := Lib.hid hb1
  clear ho1 hb1
  go_wp2_with fail
  go_loopw [11] (fun i wr => ∃ k : Nat, k ≤ xs.length ∧ i = .int .i64 k ∧ (∀ j, j < k → apartM A S (vtxN xs j) = 0) ∧ Below w1.heap.size w1 wr) (fun i _ => xs.length - (intOf i).toNat)
  case atStart => exact ⟨0, Nat.zero_le _, rfl, fun j hj => absurd hj (by omega), Below.refl _ _⟩
  case round =>
    obtain ⟨k, hk, rfl, hall, hb⟩ := hrel
    have HB := Lib.hid hb
    have HALL := Lib.hid hall
    clear hall
    by_cases hlt : k < xs.length
    · obtain ⟨u, hu, huv, hu16⟩ := HV.out k hlt
      obtain ⟨bx, ox, cx, ex, lx1, lx2, hcx⟩ := HO1.out.row.pos (by omega)
      simp only [Value.slice.injEq, true_and] at ex
      obtain ⟨rfl, rfl⟩ := ex
      have hck := cell_keep hb (hcx k hlt)
      rw [hu] at hck
      have hR := (HN.out.keep HB1.out).keepB hb (by have := (HN.out.keep HB1.out).lt; omega)
      have kr := hR.at.2 u hu16
      have huI : (u : Int) < 16 := by omega
      have e1 : bits BinOp.andNot IntKind.u32 ((pm S : Nat) : Int) ((pm (A u) : Nat) : Int) = ((clrM (pm S) (pm (A u)) : Nat) : Int) := by
        have q1 := pm_lt S
        have q2 := pm_lt (A u)
        rw [u32_andNot_nat _ _ (by omega) (by omega)]; rfl
      have hc1 := clr_pm S (A u)
      have HUV := Lib.hid huv
      clear hb hR hcx huv hu
      go_wp2_with fail
      refine (cut_any wr.heap.size 0 (pm (fun j => S j && !A u j)) (u : Int) _ (by go_simp) (by go_simp) (pm_lt _) (by omega) (by omega)).mono ?_
      rintro e w4 ⟨rfl, hd4⟩
      rw [Int.toNat_natCast, clr_pow _ hu16] at hd4
      have kb4 : w4.cell? ⟨wr.heap.size, 0, none⟩ = some (.int .u32 ((pm (fun j => (S j && !A u j) && j != u) : Nat) : Int)) := by
        refine cell_drawn hd4 ?_
        exact cell_set_same (u := .int .u32 ((pm (fun j => S j && !A u j) : Nat) : Int)) _ (by go_simp)
      have HB4 : Hid (Below w1.heap.size w1 w4) := ((HB.out.alloc HB.out.size _).setCell (p := ⟨wr.heap.size, 0, none⟩) HB.out.size _).trans (hd4.below _)
      have HP : Hid (apartM A S (vtxN xs k) = pm (fun j => (S j && !A u j) && j != u)) := by show _ = _; rw [← HUV.out]; rfl
      obtain ⟨q, hq⟩ : ∃ q, q = pm (fun j => (S j && !A u j) && j != u) := ⟨_, rfl⟩
      rw [← hq] at kb4 HP
      clear hd4 hq hck kr e1 hc1
      by_cases hq0 : q = 0
      · subst hq0
        go_wp2
        go_roundw
        case rel => exact ⟨k + 1, by omega, by go_num, fun j hj => by rcases Nat.lt_succ_iff_lt_or_eq.1 hj with h | h; exact HALL.out j h; subst h; exact HP.out, HB4.out⟩
        case measure => simp [intOf]; omega
      · have hqb : ((q : Int) == 0) = false := by rw [beq_eq_false_iff_ne]; omega
        have HNO : Hid ((missN A xs == 0) = false) := by
          show _ = _
          rw [beq_eq_false_iff_ne]
          intro h0
          have := HIF.out.2 h0 k hlt
          rw [HP.out] at this
          exact hq0 this
        go_wp2
        go_ret
        exact ⟨ret_bool HNO.out.symm, HB1.out.trans (HB4.out.mono HB1.out.size)⟩
    · obtain rfl : k = xs.length := by omega
      have HYS : Hid ((missN A xs == 0) = true) := by
        show _ = _
        rw [beq_iff_eq]
        exact HIF.out.1 HALL.out
      clear hb
      go_wp2
      go_ret
      exact ⟨ret_bool HYS.out.symm, HB1.out.trans (HB.out.mono HB1.out.size)⟩

theorem set_listP {xs : List Int} {n : Nat} (hn : n ≤ 16) (h : SetP xs n) : listM (maskTo xs xs.length) = xs := by
  refine sets_eq (listM_set _) (SetP.mk h.pairwise (fun x hx => by have := h.bounds x hx; omega)) (fun z => ?_)
  have hb := fun i => maskTo_bit xs xs.length i (fun j hj => (h j hj).1)
  rw [listM_mem]
  constructor
  · rintro ⟨i, hi, hb1, rfl⟩
    obtain ⟨j, hj, e⟩ := (hb i).1 hb1
    rw [← e]; exact nth_mem hj
  · intro hz
    have h2 := h.bounds z hz
    obtain ⟨j, hj, e⟩ := List.getElem_of_mem hz
    exact ⟨z.toNat, by omega, (hb _).2 ⟨j, hj, by rw [nth_eq hj, e]; omega⟩, by omega⟩
/-- A set's mask, by who is in it. -/
theorem set_pm {xs : List Int} {n : Nat} (hn : n ≤ 16) (h : SetP xs n) : maskTo xs xs.length = pm (fun u => hasB xs (u : Int)) ∧ listM (pm (fun u => hasB xs (u : Int))) = xs ∧ ∀ u : Nat, hasB xs (u : Int) = true → u < n := by
  have e : maskTo xs xs.length = pm (fun u => hasB xs (u : Int)) := by
    apply Nat.eq_of_testBit_eq
    intro j
    rw [pm_bit, Bool.eq_iff_iff, maskTo_bit xs xs.length j (fun j hj => (h j hj).1), Bool.and_eq_true, decide_eq_true_iff, hasB_mem]
    constructor
    · rintro ⟨i, hi, e⟩
      have hm : (j : Int) ∈ xs := by rw [← e]; exact nth_mem hi
      have := h.bounds _ hm
      exact ⟨by omega, hm⟩
    · rintro ⟨_, hm⟩
      obtain ⟨i, hi, e⟩ := List.getElem_of_mem hm
      exact ⟨i, hi, by rw [nth_eq hi, e]⟩
  refine ⟨e, by rw [← e]; exact set_listP hn h, fun u hu => ?_⟩
  have := h.bounds _ ((hasB_mem _ _).1 hu)
  omega
/-- What CliqueOk answers. -/
def clqB (L : List (List Int)) (xs : List Int) : Bool := setB L xs && (missN (adjB L) xs == 0)

set_option maxHeartbeats 1600000 in
theorem specCliqueOk_any (v v1 : Value) (L : List (List Int)) (xs : List Int) (w : World) (h : GridAt w v L) (h1 : RowAt w v1 xs) :
    Calls Try.prog 51 #[.agg #[v], v1] w fun e w' => e = .returned (.bool (clqB L xs)) ∧ Below w.heap.size w w' := by
  obtain ⟨a0, c0, rfl⟩ := h.slice
  have HGK : Hid (∀ W, Below w.heap.size w W → GridAt W (.slice a0 L.length c0) L) := fun W hb => h.keep hb
  have HRK : Hid (∀ W, Below w.heap.size w W → RowAt W v1 xs) := fun W hb => h1.keep hb
  have HB0 : Hid (Below w.heap.size w (w.alloc (.cells #[.slice a0 L.length c0] 29))) := (Below.refl _ _).alloc (Nat.le_refl _) _
  have HX0 : Hid (BoxAt (w.alloc (.cells #[.slice a0 L.length c0] 29)) w.heap.size (.slice a0 L.length c0)) := BoxAt.new _ _ _
  clear h h1
  go_enter Try.func51, Try.ntmps51
  go_wp2_with fail
  refine (specSetOk_any _ _ L xs _ (HGK.out _ HB0.out) (HRK.out _ HB0.out)).mono ?_
  rintro e w1 ⟨rfl, hb1⟩
  have HB1 : Hid (Below w.heap.size w w1) := HB0.out.trans (hb1.mono HB0.out.size)
  have k1 := (HX0.out.keep hb1).1
  clear hb1
  by_cases hok : setB L xs = true
  · have hgs : GraphP L ∧ SetP xs L.length := by
      unfold setB at hok
      rw [Bool.and_eq_true, decide_eq_true_iff, decide_eq_true_iff] at hok
      exact hok
    have hG := hgs.1
    have hz := hG.1
    obtain ⟨_, hl, hr⟩ := set_pm hz.2 hgs.2
    have HE : Hid (clqB L xs = (missN (adjB L) xs == 0)) := by show _ = _; unfold clqB; rw [hok]; rfl
    have HCA := Lib.hid (left_adj hG hr)
    have HCV := Lib.hid (left_vtx hr)
    rw [hl] at HCA HCV
    have hlen : xs.length ≤ 16 := by rw [← hl]; exact listM_len _
    have HLE := Lib.hid hlen
    rw [hok]
    clear hgs hG hz hl hr hok hlen
    go_wp2_with fail
    refine (l8Clique_any _ _ L xs (adjB L) _ (HGK.out _ HB1.out) (HRK.out _ HB1.out) HLE.out HCV.out HCA.out).mono ?_
    rintro e w2 ⟨rfl, hb2⟩
    have HB2 : Hid (Below w.heap.size w w2) := HB1.out.trans (hb2.mono HB1.out.size)
    rw [← HE.out]
    clear hb2 k1
    go_wp2
    go_ret
    exact ⟨rfl, HB2.out⟩
  · have hno : setB L xs = false := by simpa using hok
    have HE : Hid (clqB L xs = false) := by show _ = _; unfold clqB; rw [hno]; rfl
    rw [hno]
    clear hno hok
    go_wp2
    go_ret
    exact ⟨ret_bool HE.out.symm, HB1.out⟩

set_option maxHeartbeats 1600000 in
theorem implCliqueOk_any (v v1 : Value) (L : List (List Int)) (xs : List Int) (w : World) (h : GridAt w v L) (h1 : RowAt w v1 xs) :
    Calls Try.prog 33 #[.agg #[v], v1] w fun e w' => e = .returned (.bool (clqB L xs)) ∧ Below w.heap.size w w' := by
  obtain ⟨a0, c0, rfl⟩ := h.slice
  have ha : Below w.heap.size w (w.alloc (.cells #[.slice a0 L.length c0] 29)) := (Below.refl _ _).alloc (Nat.le_refl _) _
  have hk := h.keep ha
  have R0 := Lib.hid (h1.keep ha)
  have HA := Lib.hid ha
  clear ha
  go_enter Try.func33, Try.ntmps33
  go_wp2_with fail
  refine (netOf_any _ _ _ hk).mono ?_
  rintro e w1 ⟨rfl, hb1⟩
  have HB1 : Hid (Below w.heap.size w w1) := HA.out.trans (hb1.mono (by simp))
  have S1 := Lib.hid (R0.out.keep hb1)
  have hz : w.heap.size ≤ w1.heap.size := HB1.out.size
  have hnb := netBlk_new w1 0 (fun _ => 0)
  clear hb1 hk h HA R0
  by_cases hG : GraphP L
  · have hz1 := hG.1
    have HREL := Lib.hid (adjB_rel hG)
    have HRM : Hid (∀ i, i < 16 → rowM L i = pm (adjB L i)) := fun i _ => by rw [rowM_pm hG]
    have HG := Lib.hid hG
    rw [decide_eq_true hG, netArr_yes hG]
    clear hG
    go_wp2_with (refine wpList_store_net rfl 65 (.tmp 5) (.tmp 11) rfl w1.heap.size L.length (rowM L) rfl rfl Try.sizeNet 0 (fun _ => 0) hnb ?_; intro w3 hp; have HN3 := Lib.hid (hp.net.congr rfl HRM.out); have HB3 : Hid (Below w.heap.size w w3) := (HB1.out.alloc hz _).trans (hp.below.mono hz); have S3 := Lib.hid (S1.out.keep hp.since); have hn0 := hp.net.at.1; clear hp)
    refine (maskOf_any _ xs (L.length : Int) _ S3.out (by omega) (by omega)).mono ?_
    rintro e w4 ⟨rfl, hb4⟩
    have HB4 : Hid (Below w.heap.size w w4) := HB3.out.trans (hb4.mono HB3.out.size)
    have HN4 := Lib.hid (HN3.out.keep hb4)
    clear hb4
    by_cases hS : SetP xs L.length
    · obtain ⟨m1, m2, m3⟩ := set_pm hz1.2 hS
      have HE : Hid (clqB L xs = (missN (adjB L) (listM (pm (fun u => hasB xs (u : Int)))) == 0)) := by
        show _ = _
        unfold clqB setB
        rw [decide_eq_true HG.out, decide_eq_true hS, m2]; rfl
      have HM3 := Lib.hid m3
      rw [if_pos hS, decide_eq_true hS, m1]
      clear m1 m2 m3 hS
      go_wp2_with fail
      refine (clique_any w1.heap.size L.length (adjB L) (fun u => hasB xs (u : Int)) _ HN4.out HREL.out hz1.2 HM3.out).mono ?_
      rintro e w5 ⟨rfl, hb5⟩
      have HB5 : Hid (Below w.heap.size w w5) := HB4.out.trans (hb5.mono HB4.out.size)
      rw [← HE.out]
      clear hb5
      go_wp2
      go_ret
      exact ⟨rfl, HB5.out⟩
    · have HE : Hid (clqB L xs = false) := by show _ = _; unfold clqB setB; rw [decide_eq_false hS, Bool.and_false]; rfl
      rw [if_neg hS, decide_eq_false hS]
      clear hS
      go_wp2
      go_ret
      exact ⟨ret_bool HE.out.symm, HB4.out⟩
  · have HE : Hid (clqB L xs = false) := by show _ = _; unfold clqB setB; rw [decide_eq_false hG]; rfl
    rw [decide_eq_false hG, netArr_no hG]
    clear hG
    go_wp2_with (refine wpList_store_net rfl 65 (.tmp 5) (.tmp 11) rfl w1.heap.size 0 (fun _ => 0) rfl rfl Try.sizeNet 0 (fun _ => 0) hnb ?_; intro w3 hp; have HB3 : Hid (Below w.heap.size w w3) := (HB1.out.alloc hz _).trans (hp.below.mono hz); clear hp)
    go_ret
    exact ⟨ret_bool HE.out.symm, HB3.out⟩

end Go.Proofs.Ytmfolclpddoplaa
