/- The texts CQ1, CQ2, joined. -/
import Derived.Test.YtohjfcfcopbmoaaGreatDoorQEC3
import Derived.Test.YtohjfcfcopbmoaaGreatDoorQER1
import Derived.Test.YtohjfcfcopbmoaaGreatDoorQC1
import Derived.BigQuiet

/- Walks: all of a set are near each other, of the program; CliqueOk. -/
namespace Go.Proofs.YtohjfcfcopbmoaaGreatDoor
open Go.RowKit

/-- Who of a set is not near u, u itself aside. -/
def apartM (A : Nat → Nat → Bool) (S : Nat → Bool) (u : Nat) : Nat := pm (fun j => (S j && !A u j) && j != u)
theorem apart_iff {A : Nat → Nat → Bool} {n : Nat} (hA : RelP n A) (hn : n ≤ 16) {S : Nat → Bool} (hS : ∀ u, S u = true → u < n) :
    (∀ i, i < (listM (pm S)).length → apartM A S (vtxN (listM (pm S)) i) = 0) ↔ missN A (listM (pm S)) = 0 := by
  constructor
  · intro h
    refine missN_zero (fun i k hki hil => ?_)
    have h0 := h k (by omega)
    obtain ⟨p1, p2, _⟩ := vtx_listM (S := S) (k := k) (by omega)
    obtain ⟨q1, q2, _⟩ := vtx_listM (S := S) hil
    have hne : vtxN (listM (pm S)) i ≠ vtxN (listM (pm S)) k := fun e => by have := vtx_inj hil (by omega) e; omega
    have hb : (apartM A S (vtxN (listM (pm S)) k)).testBit (vtxN (listM (pm S)) i) = false := by rw [h0]; simp
    unfold apartM at hb
    rw [pm_bit, decide_eq_true q2, Bool.true_and, q1, Bool.true_and] at hb
    have hne2 : (vtxN (listM (pm S)) i != vtxN (listM (pm S)) k) = true := by rw [bne_iff_ne]; exact hne
    rw [hne2, Bool.and_true] at hb
    simpa using hb
  · intro h i hi
    obtain ⟨p1, p2, _⟩ := vtx_listM (S := S) hi
    apply Nat.eq_of_testBit_eq
    intro j
    unfold apartM
    rw [pm_bit, Nat.zero_testBit]
    by_cases hj : j < 16
    · rw [decide_eq_true hj, Bool.true_and]
      cases hs : S j with
      | false => rfl
      | true =>
        by_cases e : j = vtxN (listM (pm S)) i
        · rw [← e]; simp
        · rw [miss_pair hA hn hS h p1 hs (fun e2 => e e2.symm)]; rfl
    · rw [decide_eq_false hj, Bool.false_and]

set_option maxHeartbeats 2000000 in
set_option maxRecDepth 100000 in
theorem clique_any (bn n : Nat) (A : Nat → Nat → Bool) (S : Nat → Bool) (w : World) (h : NetBlk 83 w bn n (fun i => pm (A i))) (hA : RelP n A) (hn : n ≤ 16) (hS : ∀ u, S u = true → u < n) :
    Calls Tryz.prog 107 #[.pointer (some ⟨bn, 0, none⟩), .int .u32 ((pm S : Nat) : Int)] w fun e w' => e = .returned (.bool (missN A (listM (pm S)) == 0)) ∧ Below w.heap.size w w' := by
  have HIF := Lib.hid (apart_iff hA hn hS)
  obtain ⟨xs, hxs⟩ : ∃ xs, xs = listM (pm S) := ⟨_, rfl⟩
  have hlen := listM_len (pm S)
  have HV : Hid (∀ i, i < xs.length → ∃ u : Nat, nth xs i = (u : Int) ∧ u = vtxN xs i ∧ u < 16) := fun i hi => by
    subst hxs
    obtain ⟨h1, h2, h3⟩ := vtx_listM hi
    exact ⟨_, h3, rfl, h2⟩
  rw [← hxs] at hlen HIF
  have HXS := Lib.hid hxs
  have HN := Lib.hid h
  have hpl : pm S < 65536 := pm_lt _
  rw [← hxs]
  clear h hxs hA hS
  go_enter Tryz.func107, Tryz.ntmps107
  go_wp2_with fail
  refine (list_any (pm S) _ hpl).mono ?_
  rintro e w1 ⟨n1, a1, c1, rfl, ho1, hb1⟩
  rw [← HXS.out] at ho1
  obtain ⟨a3, c3, e3⟩ := ho1.row.slice
  simp only [Value.slice.injEq] at e3
  obtain ⟨rfl, rfl, rfl⟩ := e3
  have HO1 := Lib.hid ho1
  have HB1 := Lib.hid hb1
  clear ho1 hb1
  go_wp2_with fail
  go_loopw [11] (fun i wr => ∃ k : Nat, k ≤ xs.length ∧ i = .int .i64 k ∧ (∀ j, j < k → apartM A S (vtxN xs j) = 0) ∧ Below w1.heap.size w1 wr) (fun i _ => xs.length - (intOf i).toNat)
  case atStart => exact ⟨0, Nat.zero_le _, rfl, fun j hj => absurd hj (by omega), Below.refl _ _⟩
  case round =>
    obtain ⟨k, hk, rfl, hall, hb⟩ := hrel
    have HB := Lib.hid hb
    have HALL := Lib.hid hall
    clear hall
    by_cases hlt : k < xs.length
    · obtain ⟨u, hu, huv, hu16⟩ := HV.out k hlt
      obtain ⟨bx, ox, cx, ex, lx1, lx2, hcx⟩ := HO1.out.row.pos (by omega)
      simp only [Value.slice.injEq, true_and] at ex
      obtain ⟨rfl, rfl⟩ := ex
      have hck := cell_keep hb (hcx k hlt)
      rw [hu] at hck
      have hR := (HN.out.keep HB1.out).keepB hb (by have := (HN.out.keep HB1.out).lt; omega)
      have kr := hR.at.2 u hu16
      have huI : (u : Int) < 16 := by omega
      have e1 : bits BinOp.andNot IntKind.u32 ((pm S : Nat) : Int) ((pm (A u) : Nat) : Int) = ((clrM (pm S) (pm (A u)) : Nat) : Int) := by
        have q1 := pm_lt S
        have q2 := pm_lt (A u)
        rw [u32_andNot_nat _ _ (by omega) (by omega)]; rfl
      have hc1 := clr_pm S (A u)
      have HUV := Lib.hid huv
      clear hb hR hcx huv hu
      go_wp2_with fail
      refine (cut_any wr.heap.size 0 (pm (fun j => S j && !A u j)) (u : Int) _ (by go_simp) (by go_simp) (pm_lt _) (by omega) (by omega)).mono ?_
      rintro e w4 ⟨rfl, hd4⟩
      rw [Int.toNat_natCast, clr_pow _ hu16] at hd4
      have kb4 : w4.cell? ⟨wr.heap.size, 0, none⟩ = some (.int .u32 ((pm (fun j => (S j && !A u j) && j != u) : Nat) : Int)) := by
        refine cell_drawn hd4 ?_
        exact cell_set_same (u := .int .u32 ((pm (fun j => S j && !A u j) : Nat) : Int)) _ (by go_simp)
      have HB4 : Hid (Below w1.heap.size w1 w4) := ((HB.out.alloc HB.out.size _).setCell (p := ⟨wr.heap.size, 0, none⟩) HB.out.size _).trans (hd4.below _)
      have HP : Hid (apartM A S (vtxN xs k) = pm (fun j => (S j && !A u j) && j != u)) := by show _ = _; rw [← HUV.out]; rfl
      obtain ⟨q, hq⟩ : ∃ q, q = pm (fun j => (S j && !A u j) && j != u) := ⟨_, rfl⟩
      rw [← hq] at kb4 HP
      clear hd4 hq hck kr e1 hc1
      by_cases hq0 : q = 0
      · subst hq0
        go_wp2
        go_roundw
        case rel => exact ⟨k + 1, by omega, by go_num, fun j hj => by rcases Nat.lt_succ_iff_lt_or_eq.1 hj with h | h; exact HALL.out j h; subst h; exact HP.out, HB4.out⟩
        case measure => simp [intOf]; omega
      · have hqb : ((q : Int) == 0) = false := by rw [beq_eq_false_iff_ne]; omega
        have HNO : Hid ((missN A xs == 0) = false) := by
          show _ = _
          rw [beq_eq_false_iff_ne]
          intro h0
          have := HIF.out.2 h0 k hlt
          rw [HP.out] at this
          exact hq0 this
        go_wp2
        go_ret
        exact ⟨ret_bool HNO.out.symm, HB1.out.trans (HB4.out.mono HB1.out.size)⟩
    · obtain rfl : k = xs.length := by omega
      have HYS : Hid ((missN A xs == 0) = true) := by
        show _ = _
        rw [beq_iff_eq]
        exact HIF.out.1 HALL.out
      clear hb
      go_wp2
      go_ret
      exact ⟨ret_bool HYS.out.symm, HB1.out.trans (HB.out.mono HB1.out.size)⟩

end Go.Proofs.YtohjfcfcopbmoaaGreatDoor

/- Walks: SimplicialIn. -/
namespace Go.Proofs.YtohjfcfcopbmoaaGreatDoor
open Go.RowKit

/-- Those of the first n that satisfy p. -/
def simTo (p : Nat → Bool) : Nat → List Int
  | 0 => []
  | k + 1 => if p k = true then simTo p k ++ [(k : Int)] else simTo p k
theorem simTo_len (p : Nat → Bool) (k : Nat) : (simTo p k).length ≤ k := by
  induction k with
  | zero => exact Nat.le_refl _
  | succ k ih =>
    rw [simTo]
    split
    · rw [List.length_append, List.length_singleton]; omega
    · omega
/-- Are all neighbours of v near each other? -/
def simB (A : Nat → Nat → Bool) (v : Nat) : Bool := missN A (listM (pm (A v))) == 0
/-- What SimplicialIn answers. -/
def simpL (L : List (List Int)) : List Int := if GraphP L then simTo (simB (adjB L)) L.length else []
set_option maxHeartbeats 4000000 in
set_option maxRecDepth 100000 in
theorem implSimplicialIn_any (v : Value) (L : List (List Int)) (w : World) (h : GridAt w v L) : Calls Tryz.prog 32 #[.agg #[v]] w (GaveRow w (simpL L)) := by
  obtain ⟨i0, hi, hzi0, hzi1, hzi2⟩ := info_parts Tryz.infoI
  obtain ⟨a0, c0, rfl⟩ := h.slice
  have ha : Below w.heap.size w (w.alloc (.cells #[.slice a0 L.length c0] 26)) := (Below.refl _ _).alloc (Nat.le_refl _) _
  have hk := h.keep ha
  have HA := Lib.hid ha
  clear ha h
  go_enter Tryz.func32, Tryz.ntmps32
  go_wp2_with fail
  refine (netOf_any _ _ _ hk).mono ?_
  rintro e w1 ⟨rfl, hb1⟩
  have HB1 : Hid (Below w.heap.size w w1) := HA.out.trans (hb1.mono (by simp))
  have hz : w.heap.size ≤ w1.heap.size := HB1.out.size
  have hnb := netBlk_new w1 0 (fun _ => 0)
  clear hb1 hk HA
  by_cases hG : GraphP L
  · have hz1 := hG.1
    have HREL := Lib.hid (adjB_rel hG)
    have HRM : Hid (∀ i, i < 16 → rowM L i = pm (adjB L i)) := fun i _ => by rw [rowM_pm hG]
    have HF : Hid (simpL L = simTo (simB (adjB L)) L.length) := if_pos hG
    rw [decide_eq_true hG, netArr_yes hG]
    clear hG
    go_wp2_with (refine wpList_store_net rfl 83 (.tmp 3) (.tmp 10) rfl w1.heap.size L.length (rowM L) rfl rfl Tryz.sizeNet 0 (fun _ => 0) hnb ?_; intro w3 hp; have HN3 := Lib.hid (hp.net.congr rfl HRM.out); have HB3 : Hid (Below w.heap.size w w3) := (HB1.out.alloc hz _).trans (hp.below.mono hz); have hn0 := ((hp.net.congr rfl HRM.out).keep ((Below.refl _ _).alloc (Nat.le_refl _) (.cells #[] 2))).at.1; clear hp)
    have HN4 : Hid (NetBlk 83 (w3.alloc (.cells #[] 2)) w1.heap.size L.length (fun i => pm (adjB L i))) := HN3.out.keep ((Below.refl _ _).alloc (Nat.le_refl _) _)
    have HO4 : Hid (OwnRow 2 (w3.alloc (.cells #[] 2)) w3.heap.size (.slice (some ⟨w3.heap.size, 0, none⟩) 0 0) []) := own_none2 w3 _ (Nat.le_refl _)
    have HZ4 : Hid (Below w3.heap.size w3 (w3.alloc (.cells #[] 2))) := (Below.refl _ _).alloc (Nat.le_refl _) _
    clear hn0
    go_loopw [5, 17] (fun s i wr => ∃ k : Nat, k ≤ L.length ∧ i = .int .i64 k ∧ OwnRow 2 wr w3.heap.size s (simTo (simB (adjB L)) k) ∧ Below w3.heap.size w3 wr) (fun _ i _ => L.length - (intOf i).toNat)
    case atStart => exact ⟨0, Nat.zero_le _, rfl, HO4.out, HZ4.out⟩
    case round =>
      obtain ⟨k, hk, rfl, ho, hb⟩ := hrel
      have HNX : Hid (simTo (simB (adjB L)) (k + 1) = if simB (adjB L) k = true then simTo (simB (adjB L)) k ++ [(k : Int)] else simTo (simB (adjB L)) k) := rfl
      have hyl := simTo_len (simB (adjB L)) k
      obtain ⟨ys, hys⟩ : ∃ ys, ys = simTo (simB (adjB L)) k := ⟨_, rfl⟩
      rw [← hys] at HNX hyl ho
      have HYS := Lib.hid hys
      obtain ⟨a5, c5, e5⟩ := ho.row.slice
      subst e5
      obtain ⟨m, hm⟩ : ∃ m, m = ys.length := ⟨_, rfl⟩
      rw [← hm] at ho hyl ⊢
      have HM := Lib.hid hm
      have HO := Lib.hid ho
      have HB := Lib.hid hb
      have HN := Lib.hid (HN3.out.keep hb)
      clear hm hys ho hb
      by_cases hlt : k < L.length
      · have hk16 : k < 16 := by omega
        have hkI : (k : Int) < 16 := by omega
        have hltI : (k : Int) < (L.length : Int) := by omega
        have kr := HN.out.at.2 k hk16
        have hSR : ∀ u, adjB L k u = true → u < L.length := fun u hu => (HREL.out.range k u hu).2
        have HCL := Lib.hid (clique_any w1.heap.size L.length (adjB L) (adjB L k) wr HN.out HREL.out hz1.2 hSR)
        clear hSR
        go_wp2_with fail
        refine HCL.out.mono ?_
        rintro e w4 ⟨rfl, hb4⟩
        have HB4 : Hid (Below w3.heap.size w3 w4) := HB.out.trans (hb4.mono HB.out.size)
        have HO4 := Lib.hid (HO.out.keep hb4)
        obtain ⟨t, ht⟩ : ∃ t, t = simB (adjB L) k := ⟨_, rfl⟩
        rw [← ht] at HNX
        have HT : Hid ((missN (adjB L) (listM (pm (adjB L k))) == 0) = t) := ht.symm
        rw [HT.out]
        clear hb4 kr HCL ht HT
        cases t with
        | false =>
          go_wp2
          go_roundw
          case rel => exact ⟨k + 1, by omega, by go_num, by rw [HNX.out, if_neg (by simp)]; exact HO4.out, HB4.out⟩
          case measure => simp [intOf]; omega
        | true =>
          have HWO : Hid (w4.ownsRow w3.heap.size 2 1 (.slice a5 m c5) m (ys.map (Value.int .i64))) := by
            have h := HO4.out.owns
            rw [← HM.out] at h
            exact h
          go_wp2_with (at_builtin; refine wpList_append_own _ rfl (.tmp 25) (.tmp 27) 33 rfl w3.heap.size 2 i0 (.int .i64 0) 1 8 Tryz.underlying33 hi hzi0 hzi1 hzi2 rfl (by decide) _ _ _ rfl (HWO.out.alloc _) ⟨w4.heap.size, 0, none⟩ 1 1 [.int .i64 (k : Int)] rfl rfl ?d1 ?d2 ?d3 ?d4 ?d5 ?_)
          case d1 =>
            intro j u hj
            match j, hj with
            | 0, hj =>
              simp at hj; subst hj
              simp [Addr.add]
          case d2 => intro u hu; simp at hu; subst hu; rfl
          case d3 => unfold maxLen; omega
          case d4 => omega
          case d5 => have := HB4.out.size; simp; omega
          intro v12 w12 hown12 hgrow12 _
          have hb12 : Below w3.heap.size w4 w12 := ((Below.refl _ _).alloc HB4.out.size _).grown hgrow12 (by have := HB4.out.size; simp; omega) (fun j hj => (HWO.out.lt j hj).1)
          have HEND : Hid (OwnRow 2 w12 w3.heap.size v12 (simTo (simB (adjB L)) (k + 1)) ∧ Below w3.heap.size w3 w12) := by
            rw [HNX.out]
            simp only [if_true]
            refine ⟨?_, HB4.out.trans (hb12.mono (Nat.le_refl _))⟩
            exact OwnRow.of_ownsRow (xs := ys ++ [(k : Int)]) (n := m + 1) (by simpa using hown12) (by rw [List.length_append, ← HM.out, List.length_singleton]; unfold maxLen; omega) (fun z hz => by
              rcases List.mem_append.1 hz with hz | hz
              · exact HO4.out.1 z hz
              · rw [List.mem_singleton] at hz; subst hz; unfold I64; omega)
          clear hown12 hgrow12 hb12
          go_wp2
          go_roundw
          case rel => exact ⟨k + 1, by omega, by go_num, HEND.out.1, HEND.out.2⟩
          case measure => simp [intOf]; omega
      · obtain rfl : k = L.length := by omega
        go_wp2
        go_ret
        exact ⟨_, _, _, rfl, by rw [HF.out, ← HYS.out]; exact HO.out.mono HB3.out.size, HB3.out.trans (HB.out.mono HB3.out.size)⟩
  · have HI : Hid (simpL L = []) := if_neg hG
    rw [decide_eq_false hG, netArr_no hG]
    clear hG
    go_wp2_with (refine wpList_store_net rfl 83 (.tmp 3) (.tmp 10) rfl w1.heap.size 0 (fun _ => 0) rfl rfl Tryz.sizeNet 0 (fun _ => 0) hnb ?_; intro w3 hp; have HB3 : Hid (Below w.heap.size w w3) := (HB1.out.alloc hz _).trans (hp.below.mono hz); clear hp)
    go_ret
    exact ⟨0, none, 0, rfl, by rw [HI.out]; exact ⟨by simp, by simp, Or.inl ⟨rfl, rfl⟩⟩, HB3.out⟩

end Go.Proofs.YtohjfcfcopbmoaaGreatDoor
