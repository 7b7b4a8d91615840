/- The texts ER16, CI1, CS4, FH1, Frame, FrameB, joined. -/
import Derived.Test.YtohjfcfcopbmoaaGreatDoorQCX2
import Derived.Test.YtohjfcfcopbmoaaGreatDoorQEC3
import Derived.Test.YtohjfcfcopbmoaaGreatDoorQER6
import Derived.Test.YtohjfcfcopbmoaaGreatDoorQCO1
import Derived.Test.YtohjfcfcopbmoaaGreatDoorQU2
import Derived.Deep.RegionHeld3
import Derived.Test.YtohjfcfcopbmoaaGreatDoorEC2
import Derived.Test.YtohjfcfcopbmoaaGreatDoorQLL3
import Derived.Test.YtohjfcfcopbmoaaGreatDoorRows
import Derived.Test.YtohjfcfcopbmoaaGreatDoorQBase
import Derived.ProofKit
import Derived.OpenShut
import Derived.ShutString
import Derived.ChangeOld
import Derived.Deep.Matrix
import Derived.Test.YtohjfcfcopbmoaaGreatDoorQJ1

/- Walks: ByDegree and ByFill of the program. -/
namespace Go.Proofs.YtohjfcfcopbmoaaGreatDoor
open Go.RowKit

set_option maxHeartbeats 4000000 in
set_option maxRecDepth 100000 in
theorem elimL_any (g n : Nat) (A : Nat → Nat → Bool) (w : World) (h : RemBlk w g n (fun i => pm (A i)) (allL n)) (hrel : RelP n A) (hn : 1 ≤ n ∧ n ≤ 16) :
    Calls Tryz.prog 129 #[.pointer (some ⟨g, 0, none⟩), .func (.func 184) #[.pointer (some ⟨g, 0, none⟩)] #[]] w (GaveEl w g (grL (lackC A) n n)) := by
  obtain ⟨i0, hi, hz0, hz1, hz2⟩ := info_parts Tryz.infoI
  have hmk : ∀ (w : World), (Instr.makeSlice 33 (.int .i64 0) (.int .i64 (n : Int))).run Tryz.prog w = .ok (.slice (some ⟨w.heap.size, 0, none⟩) 0 n) (w.alloc (.cells (madeCells #[.int .i64 0] n) 2)) := fun w => by
    have := run_makeSlice (P := Tryz.prog) w 33 2 i0 (.int .i64 0) Tryz.underlying33 hi hz0 .i64 .i64 0 (n : Int) (Int.le_refl _) (by omega) (by rw [hz1]; simp; omega) (by rw [hz2]; omega) (by omega)
    rw [hz1] at this
    simpa [Value.cells] using this
  have hmany := h.many
  have hgl := h.lt
  rw [allL_len] at hmany
  have HREL := Lib.hid hrel
  have HB0 : Hid (Below w.heap.size w (w.alloc (.cells (madeCells #[.int .i64 0] n) 2))) := (Below.refl _ _).alloc (Nat.le_refl _) _
  have HW0 : Hid (ElW w g n A (lackC A) 0 (.slice (some ⟨w.heap.size, 0, none⟩) 0 n) (w.alloc (.cells (madeCells #[.int .i64 0] n) 2))) := by
    refine ⟨?_, made_row w w.heap.size n (Nat.le_refl _) (by unfold maxLen; omega), HB0.out.mono (by omega), HB0.out.size⟩
    have e : (remL (fun i => hasB (grL (lackC A) n 0) (i : Int)) n) = allL n := remL_all n
    rw [e]
    have e2 : webX A (grL (lackC A) n 0) = A := webX_nil A
    rw [e2]
    exact h.keep HB0.out
  clear h hrel
  go_enter Tryz.func129, Tryz.ntmps129
  go_wp2_with fail
  clear hmany
  go_loopw [5, 6] (fun v _ wr => ∃ k : Nat, k ≤ n ∧ ElW w g n A (lackC A) k v wr) (fun _ _ wr => (intOf ((wr.cell? ⟨g, 33, none⟩).getD undef)).toNat)
  case atStart => exact ⟨0, Nat.zero_le _, HW0.out⟩
  case round =>
    obtain ⟨k, hk, hw⟩ := hrel
    obtain ⟨ys, hys⟩ : ∃ ys, ys = grL (lackC A) n k := ⟨_, rfl⟩
    have hyl : ys.length = k := by rw [hys]; exact grL_len _ _ _
    have hout := hw.out
    have hrem := hw.rem
    rw [← hys] at hout hrem
    obtain ⟨a5, c5, e5⟩ := hout.row.slice
    rw [hyl] at e5
    subst e5
    have HOUT := Lib.hid hout
    have HREM := Lib.hid hrem
    have HBEL := Lib.hid hw.bel
    have HSIZ := Lib.hid hw.siz
    have hmany := hrem.many
    have HMY := Lib.hid hmany
    have HYS := Lib.hid hys
    have HYL := Lib.hid hyl
    by_cases hlt : k < n
    · obtain ⟨v, hv, ev, hnew⟩ := grL_best (c := lackC A) (n := n) hlt
      have HNX : Hid (grL (lackC A) n (k + 1) = ys ++ [(v : Int)]) := by show _ = _; rw [grL, ev, hys]
      rw [← hys] at ev hnew
      have hv16 : v < 16 := by omega
      have hlen := remL_some hv hnew
      have hl16 : (remL (fun v => hasB ys (v : Int)) n).length ≤ 16 := Nat.le_trans (remL_len _ _) hn.2
      have hpos : (((remL (fun v => hasB ys (v : Int)) n).length : Nat) : Int) > 0 := by omega
      have HMIN : Hid (minTo (fun i => lackV (webX A ys) i) (remL (fun v => hasB ys (v : Int)) n) ((remL (fun v => hasB ys (v : Int)) n).length - 1) = (v : Int)) := by show _ = _; rw [minTo_best _ _ _ hlen]; exact ev
      obtain ⟨k0, q1, q2, q3, q4⟩ := remL_off (ys := ys) hv hnew
      have HLL : Hid ((remL (fun i => hasB (ys ++ [(v : Int)]) (i : Int)) n).length < (remL (fun v => hasB ys (v : Int)) n).length) := by show _ < _; rw [← q4, offL_len q1]; omega
      have HCUT : Hid (cutA (knitA (webX A ys) v) v = webX A (ys ++ [(v : Int)])) := web_cut A hnew
      have HEL : Hid (∀ V, RemBlk V g n (fun i => pm (webX A ys i)) (remL (fun v => hasB ys (v : Int)) n) → Calls Tryz.prog 199 #[.pointer (some ⟨g, 0, none⟩), .int .i64 (v : Int)] V fun e w' => e = .returned (.tuple #[]) ∧ RemBlk w' g n (fun i => pm (cutA (knitA (webX A ys) v) v i)) (remL (fun i => hasB (ys ++ [(v : Int)]) (i : Int)) n) ∧ Touched g (g + 1) V w') :=
        fun V hV => remEliminate_any _ g n v k0 n (webX A ys) _ V hV hl16 q1 q2 q3 (remL_i64 _ hn.2) hv16 (webX_rel HREL.out _) q4
      clear hys hyl hw ev hnew q1 q2 q3 q4 hout hrem
      go_wp2_with fail
      refine (remCheapL_any g n (webX A ys) _ _ HREM.out (webX_rel HREL.out _).sym hlen hl16 (remL_at _ hn.2)).mono ?_
      rintro e w6 ⟨rfl, hb6⟩
      rw [HMIN.out]
      have HR6 := Lib.hid (HREM.out.keep hb6)
      have HO6 := Lib.hid (HOUT.out.keep hb6)
      have HB6 : Hid (Below g w w6) := HBEL.out.trans (hb6.mono (by have := HREM.out.lt; omega))
      have HZ6 : Hid (w.heap.size ≤ w6.heap.size) := Nat.le_trans HSIZ.out hb6.size
      clear hb6 hmany hpos
      go_wp2_with fail
      refine (HEL.out _ HR6.out).mono ?_
      rintro e w8 ⟨rfl, hr8, ht8⟩
      have HR8 := Lib.hid hr8
      have HO8 : Hid (OwnRow 2 w8 w.heap.size (.slice a5 k c5) ys) := HO6.out.touched ht8 (by omega)
      have HB8 : Hid (Below g w w8) := HB6.out.trans (ht8.below (by have := HZ6.out; omega))
      have HZ8 : Hid (w.heap.size ≤ w8.heap.size) := Nat.le_trans HZ6.out ht8.size
      clear hr8 ht8
      have HWO : Hid (w8.ownsRow w.heap.size 2 1 (.slice a5 k c5) k (ys.map (Value.int .i64))) := by
        have h := HO8.out.owns
        rw [HYL.out] at h
        exact h
      go_wp2_with (at_builtin; refine wpList_append_own _ rfl (.tmp 23) (.tmp 25) 33 rfl w.heap.size 2 i0 (.int .i64 0) 1 8 Tryz.underlying33 hi hz0 hz1 hz2 rfl (by decide) _ _ _ rfl (HWO.out.alloc _) ⟨w8.heap.size, 0, none⟩ 1 1 [.int .i64 (v : Int)] rfl rfl (lit1 _ _ _) (one1 _) (by unfold maxLen; omega) (by omega) (by have := HZ8.out; simp; omega) ?_)
      intro v12 w12 hown12 hgrow12 _
      have hb12 : Below w.heap.size w8 w12 := ((Below.refl _ _).alloc HZ8.out _).grown hgrow12 (by have := HZ8.out; simp; omega) (fun j hj => (HWO.out.lt j hj).1)
      have HR12 := Lib.hid (HR8.out.keepB hb12 hgl)
      have HM12 := Lib.hid HR12.out.many
      have HME : Hid ((intOf ((w12.cell? ⟨g, 33, none⟩).getD undef)).toNat < (intOf ((wr.cell? ⟨g, 33, none⟩).getD undef)).toNat) := by
        show _ < _
        rw [HM12.out, HMY.out]
        exact HLL.out
      have HEND : Hid (ElW w g n A (lackC A) (k + 1) v12 w12) := by
        refine ⟨?_, ?_, HB8.out.trans (hb12.mono (by omega)), Nat.le_trans HZ8.out hb12.size⟩
        · rw [HNX.out, ← HCUT.out]
          exact HR12.out
        · rw [HNX.out]
          exact OwnRow.of_ownsRow (xs := ys ++ [(v : Int)]) (n := k + 1) (by simpa using hown12) (by rw [List.length_append, HYL.out, List.length_singleton]; unfold maxLen; omega) (fun z hz => by
            rcases List.mem_append.1 hz with hz | hz
            · exact HO8.out.1 z hz
            · rw [List.mem_singleton] at hz; subst hz; unfold I64; omega)
      clear hown12 hgrow12 hb12
      go_wp2
      go_roundw
      case rel => exact ⟨k + 1, by omega, HEND.out⟩
      case measure => exact HME.out
    · obtain rfl : k = n := by omega
      have h0 : (remL (fun v => hasB ys (v : Int)) k).length = 0 := remL_none (by rw [hys]; exact grL_ord _ _)
      rw [h0] at hmany
      have HEND : Hid (GaveEl w g (grL (lackC A) k k) (.returned (.slice a5 k c5)) wr) := ⟨_, _, _, rfl, by rw [← HYS.out]; exact HOUT.out, HBEL.out, HSIZ.out⟩
      clear hys hyl hw hout hrem h0
      go_wp2
      go_ret
      exact HEND.out


def byDegL (L : List (List Int)) : List Int := if GraphP L then grL (degC (adjB L)) L.length L.length else []
theorem byDegL_small (L : List (List Int)) : (byDegL L).length ≤ 16 := by
  unfold byDegL
  split
  · rename_i h
    rw [grL_len]; exact h.1.2
  · simp

def byFillL (L : List (List Int)) : List Int := if GraphP L then grL (lackC (adjB L)) L.length L.length else []
theorem byFillL_small (L : List (List Int)) : (byFillL L).length ≤ 16 := by
  unfold byFillL
  split
  · rename_i h
    rw [grL_len]; exact h.1.2
  · simp

set_option maxHeartbeats 4000000 in
set_option maxRecDepth 100000 in
theorem implByFill_any (v : Value) (L : List (List Int)) (w : World) (h : GridAt w v L) : Calls Tryz.prog 96 #[.agg #[v]] w (GaveRow w (byFillL L)) := by
  have hmf : ∀ (fn : Fn) (first cap : Array Value) (w : World), (Instr.makeFunc fn first cap).run Tryz.prog w = .ok (.func fn first cap) w := fun _ _ _ _ => rfl
  obtain ⟨a0, c0, rfl⟩ := h.slice
  have HGK : Hid (∀ w', Below w.heap.size w w' → GridAt w' (.slice a0 L.length c0) L) := fun w' hb => h.keep hb
  have HB0 : Hid (Below w.heap.size w (w.alloc (.cells #[.slice a0 L.length c0] 26))) := (Below.refl _ _).alloc (Nat.le_refl _) _
  clear h
  go_enter Tryz.func96, Tryz.ntmps96
  go_wp2_with fail
  refine (netOf_any _ L _ (HGK.out _ HB0.out)).mono ?_
  rintro e w1 ⟨rfl, hb1⟩
  have HB1 : Hid (Below w.heap.size w w1) := HB0.out.trans (hb1.mono HB0.out.size)
  have hz1 := HB1.out.size
  have hnb := netBlk_new w1 0 (fun _ => 0)
  clear hb1 HGK HB0
  by_cases hG : GraphP L
  · have hz := hG.1
    have HREL := Lib.hid (adjB_rel hG)
    have HRM : Hid (∀ i, i < 16 → rowM L i = pm (adjB L i)) := fun i _ => by rw [rowM_pm hG]
    have HF : Hid (byFillL L = grL (lackC (adjB L)) L.length L.length) := if_pos hG
    rw [decide_eq_true hG, netArr_yes hG]
    clear hG
    go_wp2_with (refine wpList_store_net rfl 83 (.tmp 3) (.tmp 9) rfl w1.heap.size L.length (rowM L) rfl rfl Tryz.sizeNet 0 (fun _ => 0) hnb ?_; intro w2 hp; have HN2 := Lib.hid (hp.net.congr rfl HRM.out); have HB2 : Hid (Below w.heap.size w w2) := (HB1.out.alloc hz1 _).trans (hp.below.mono hz1); clear hp)
    refine (remains_any w1.heap.size L.length _ _ HN2.out hz (fun i => pm_lt _)).mono ?_
    rintro e w3 ⟨lf, rfl, hlf, hb3⟩
    have HB3 : Hid (Below w.heap.size w w3) := HB2.out.trans (hb3.mono HB2.out.size)
    have hnew : (w3.alloc (.cells (remArr 0 (fun _ => 0) (fun _ => 0) 0) 138)).heap[w3.heap.size]? = some (.cells (remArr 0 (fun _ => 0) (fun _ => 0) 0) 138 (0, 0)) := heap_alloc_new _ _
    have HNEW := Lib.hid hnew
    have HLF := Lib.hid hlf
    clear hb3 hlf hnew hnb
    go_wp2_with (refine wpList_store_row rfl 138 (.tmp 5) (.tmp 13) rfl w3.heap.size (remArr L.length (fun i => pm (adjB L i)) lf L.length) rfl rfl 138 (remArr 0 (fun _ => 0) (fun _ => 0) 0) HNEW.out Tryz.sizeRem rfl (remArr_one _ _ _ _) ?_)
    obtain ⟨w5, hw5⟩ : ∃ w5, w5 = (w3.alloc (.cells (remArr 0 (fun _ => 0) (fun _ => 0) 0) 138)).setRow w3.heap.size (remArr L.length (fun i => pm (adjB L i)) lf L.length) := ⟨_, rfl⟩
    have hg5 : w5.heap[w3.heap.size]? = some (.cells (remArr L.length (fun i => pm (adjB L i)) lf L.length) 138 (0, 0)) := by rw [hw5]; exact setRow_heap _ _ _ _ 138 _ HNEW.out
    have hb5 : Below w3.heap.size w3 w5 := by
      rw [hw5]
      exact ((Below.refl _ _).alloc (Nat.le_refl _) _).trans ⟨rfl, rfl, rfl, by simp [World.setRow], fun k hk => setRow_other _ w3.heap.size k _ (by omega)⟩
    have HB5 : Hid (Below w.heap.size w w5) := HB3.out.trans (hb5.mono HB3.out.size)
    have HRB : Hid (RemBlk w5 w3.heap.size L.length (fun i => pm (adjB L i)) (allL L.length)) := by
      refine ⟨lf, ?_, ?_⟩
      · rw [allL_len]
        exact remArr_row hg5
      · intro i hi
        rw [allL_len] at hi
        rw [HLF.out i hi]
        simp [nth, allL, hi]
    change Calls _ _ _ (World.setRow (w3.alloc (.cells (remArr 0 (fun _ => 0) (fun _ => 0) 0) 138)) w3.heap.size (remArr L.length (fun i => pm (adjB L i)) lf L.length)) _
    rw [← hw5]
    clear hw5 hg5 hb5 HNEW HLF
    refine (elimL_any w3.heap.size L.length (adjB L) _ HRB.out HREL.out hz).mono ?_
    rintro e w6 ⟨a6, m6, c6, rfl, ho6, hb6, hz6⟩
    have HO6 : Hid (OwnRow 2 w6 w.heap.size (.slice a6 m6 c6) (byFillL L)) := by rw [HF.out]; exact ho6.mono HB5.out.size
    have HB6 : Hid (Below w.heap.size w w6) := HB5.out.trans (hb6.mono HB3.out.size)
    clear ho6 hb6 hz6
    go_wp2
    go_ret
    exact ⟨_, _, _, rfl, HO6.out, HB6.out⟩
  · have HI : Hid (byFillL L = []) := if_neg hG
    rw [decide_eq_false hG, netArr_no hG]
    clear hG
    go_wp2_with (refine wpList_store_net rfl 83 (.tmp 3) (.tmp 9) rfl w1.heap.size 0 (fun _ => 0) rfl rfl Tryz.sizeNet 0 (fun _ => 0) hnb ?_; intro w3 hp; have HB3 : Hid (Below w.heap.size w w3) := (HB1.out.alloc hz1 _).trans (hp.below.mono hz1); clear hp)
    go_ret
    exact ⟨0, none, 0, rfl, by rw [HI.out]; exact ⟨by simp, by simp, Or.inl ⟨rfl, rfl⟩⟩, HB3.out⟩

end Go.Proofs.YtohjfcfcopbmoaaGreatDoor

/- Walks: PerfectOrder and ChordalIn of the program. -/
namespace Go.Proofs.YtohjfcfcopbmoaaGreatDoor
open Go.RowKit

/-- The greedy order, kept if it adds no edge, is the order of the model. -/
theorem pf_by (L : List (List Int)) : (perfB L (byFillL L) = true → pfL L = byFillL L ∧ poV L = true) ∧ (perfB L (byFillL L) = false → pfL L = [] ∧ poV L = false) := by
  by_cases hG : GraphP L
  · obtain ⟨p1, p2⟩ := perf_po hG
    have p1 : pfB (adjB L) L.length = true → perfB L (byFillL L) = true ∧ byFillL L = poS (adjB L) L.length L.length := p1
    have p2 : pfB (adjB L) L.length = false → perfB L (byFillL L) = false := p2
    cases hp : pfB (adjB L) L.length with
    | true =>
      obtain ⟨q1, q2⟩ := p1 hp
      obtain ⟨r1, r2⟩ := pf_yes hG hp
      exact ⟨fun _ => ⟨by rw [r1, q2], r2⟩, (fun h => by rw [q1] at h; cases h)⟩
    | false =>
      have hn := pf_no (L := L) (fun h => by rw [hp] at h; exact absurd h.2 (by simp))
      exact ⟨(fun h => by rw [p2 hp] at h; cases h), fun _ => hn⟩
  · have ho : orderB L (byFillL L) = false := by unfold orderB; rw [decide_eq_false hG]; rfl
    have hp : perfB L (byFillL L) = false := by unfold perfB moreI; rw [ho]; rfl
    have hn := pf_no (L := L) (fun h => hG h.1)
    exact ⟨(fun h => by rw [hp] at h; cases h), fun _ => hn⟩

set_option maxHeartbeats 1600000 in
theorem implPerfectOrder_any (v : Value) (L : List (List Int)) (w : World) (h : GridAt w v L) : Calls Tryz.prog 25 #[.agg #[v]] w (GaveYes w (pfL L) (poV L)) := by
  obtain ⟨a0, c0, rfl⟩ := h.slice
  have HGK : Hid (∀ W, Below w.heap.size w W → GridAt W (.slice a0 L.length c0) L) := fun W hb => h.keep hb
  have HB0 : Hid (Below w.heap.size w (w.alloc (.cells #[.slice a0 L.length c0] 26))) := (Below.refl _ _).alloc (Nat.le_refl _) _
  have HX0 : Hid (BoxAt (w.alloc (.cells #[.slice a0 L.length c0] 26)) w.heap.size (.slice a0 L.length c0)) := BoxAt.new _ _ _
  obtain ⟨q1, q2⟩ := pf_by L
  have HQ1 := Lib.hid q1
  have HQ2 := Lib.hid q2
  clear h q1 q2
  go_enter Tryz.func25, Tryz.ntmps25
  go_wp2_with fail
  refine (implByFill_any _ L _ (HGK.out _ HB0.out)).mono ?_
  rintro e w1 ⟨m1, a1, c1, rfl, ho1, hb1⟩
  have HB1 : Hid (Below w.heap.size w w1) := HB0.out.trans (hb1.mono HB0.out.size)
  have HO1 : Hid (OwnRow 2 w1 w.heap.size (.slice a1 m1 c1) (byFillL L)) := ho1.mono HB0.out.size
  have k1 := (HX0.out.keep hb1).1
  clear hb1 ho1
  go_wp2_with fail
  refine (implPerfectIn_any _ _ L (byFillL L) _ (HGK.out _ HB1.out) HO1.out.row).mono ?_
  rintro e w2 ⟨rfl, hb2⟩
  have HB2 : Hid (Below w.heap.size w w2) := HB1.out.trans (hb2.mono HB1.out.size)
  have HO2 := Lib.hid (HO1.out.keep hb2)
  clear hb2 k1
  obtain ⟨t, ht⟩ : ∃ t, t = perfB L (byFillL L) := ⟨_, rfl⟩
  rw [← ht] at HQ1 HQ2 ⊢
  clear ht
  cases t with
  | true =>
    obtain ⟨e1, e2⟩ := HQ1.out rfl
    go_wp2
    go_ret2
    rw [e2]
    exact ⟨_, _, _, rfl, by rw [e1]; exact HO2.out, HB2.out⟩
  | false =>
    obtain ⟨e1, e2⟩ := HQ2.out rfl
    go_wp2
    go_ret2
    rw [e1, e2]
    exact ⟨0, none, 0, rfl, ⟨by simp, by simp, Or.inl ⟨rfl, rfl⟩⟩, HB2.out⟩

theorem implChordalIn_any (v : Value) (L : List (List Int)) (w : World) (h : GridAt w v L) : Calls Tryz.prog 28 #[.agg #[v]] w fun e w' => e = .returned (.bool (poV L)) ∧ Below w.heap.size w w' := by
  obtain ⟨a0, c0, rfl⟩ := h.slice
  have HB0 : Hid (Below w.heap.size w (w.alloc (.cells #[.slice a0 L.length c0] 26))) := (Below.refl _ _).alloc (Nat.le_refl _) _
  have hg := h.keep HB0.out
  clear h
  go_enter Tryz.func28, Tryz.ntmps28
  go_wp2_with fail
  refine (implPerfectOrder_any _ L _ hg).mono ?_
  rintro e w1 ⟨m, a, c, rfl, _, hb1⟩
  have HB1 : Hid (Below w.heap.size w w1) := HB0.out.trans (hb1.mono HB0.out.size)
  clear hb1 hg
  go_wp2
  go_ret
  exact ⟨rfl, HB1.out⟩
theorem pfL_small (L : List (List Int)) : (pfL L).length ≤ 16 := by
  unfold pfL
  split
  · rename_i h
    have := poS_le (adjB L) L.length L.length
    have := h.1.1.2
    omega
  · simp

end Go.Proofs.YtohjfcfcopbmoaaGreatDoor

/- Walks: the least loop without a chord, of the model. -/
namespace Go.Proofs.YtohjfcfcopbmoaaGreatDoor
open Go.RowKit

/-- What ChordlessLoop answers. -/
noncomputable def clL (L : List (List Int)) : List Int := if GraphP L then clsL (adjB L) else []
noncomputable def clB (L : List (List Int)) : Bool := decide (0 < (clL L).length)

theorem rows_mem {L : List (List Int)} (hG : GraphP L) : ∀ a, a < 16 → ∀ z, z ∈ nthR L a ↔ ∃ v : Nat, v < 16 ∧ adjB L a v = true ∧ z = (v : Int) := fun a _ z => by
  have hz := hG.1
  by_cases ha : a < L.length
  · have hset := (hG.2.1 a ha).1
    constructor
    · intro h
      obtain ⟨i, hi, e⟩ := List.getElem_of_mem h
      have hst := hset i hi
      have h1 := hst.1
      have h2 := hst.2.1
      rw [nth_eq hi, e] at h1 h2
      refine ⟨z.toNat, by omega, ?_, by omega⟩
      rw [← adjB_has hG ha (by omega), hasB_mem, show ((z.toNat : Nat) : Int) = z by omega]
      exact h
    · rintro ⟨v, hv, hA, rfl⟩
      rw [← adjB_has hG ha hv, hasB_mem] at hA
      exact hA
  · have : nthR L a = [] := by
      unfold nthR
      rw [List.getD_eq_getElem?_getD, List.getElem?_eq_none (by omega)]
      rfl
    rw [this]
    constructor
    · intro h; exact absurd h (by simp)
    · rintro ⟨v, _, hA, _⟩
      exact absurd (adjB_range hG hA).1 ha

end Go.Proofs.YtohjfcfcopbmoaaGreatDoor

/- Plain facts: what the law FnChordal asks of a graph. -/
namespace Go.Proofs.YtohjfcfcopbmoaaGreatDoor
open Go.RowKit

theorem cls_seen {L : List (List Int)} (hG : GraphP L) : SeenR (ChlP (adjB L)) (ChlP (adjB L)) (clL L) := by
  have hzz := hG.1
  have hM : ∀ i, rowM L i < 65536 := fun i => rowM_lt (by omega) (fun v hv => (hG.2.1 v hv).1) i
  have hN : nearM (rowM L) = adjB L := rfl
  have hA : RelP L.length (nearM (rowM L)) := by rw [hN]; exact adjB_rel hG
  have h1 := bestZ_seen hA hM hzz.2
  have h2 := bestZ_cls hA hM hzz.2
  rw [h2, hN] at h1
  unfold clL
  rw [if_pos hG]
  exact h1

/-- A valid graph has an order of perfect elimination, or a chordless loop, never both. -/
theorem chordal_facts {L : List (List Int)} (hG : GraphP L) : (poV L = true ∧ clB L = false ∧ perfB L (pfL L) = true ∧ 0 < (simpL L).length) ∨ (poV L = false ∧ clB L = true ∧ chlB L (clL L) = true) := by
  have hs := cls_seen hG
  have hchl : ∀ xs, ChlP (adjB L) xs → chlB L xs = true := fun xs h => by
    unfold chlB; rw [loop_back hG h.loop, decide_eq_true h.four, h.none_]; rfl
  have hback : ∀ xs, chlB L xs = true → ChlP (adjB L) xs := fun xs hc => by
    unfold chlB at hc
    rw [Bool.and_eq_true, Bool.and_eq_true, decide_eq_true_iff] at hc
    obtain ⟨_, hL, _, _⟩ := loop_facts hc.1.1
    exact ⟨hL, hc.1.2, hc.2⟩
  by_cases hp : pfB (adjB L) L.length = true
  · left
    have hy := pf_yes hG hp
    have hno := (chordal_iff hG).1 hp
    have e : clL L = [] := by
      rcases hs.1 with e | e
      · exact e
      · have h2 := hchl _ e
        rw [hno] at h2
        cases h2
    refine ⟨hy.2, by unfold clB; rw [e]; rfl, ?_, ?_⟩
    · have hb := pf_by L
      cases hq : perfB L (byFillL L) with
      | true => rw [(hb.1 hq).1]; exact hq
      | false =>
        have h2 := hy.2
        rw [(hb.2 hq).2] at h2
        cases h2
    · exact List.length_pos_iff.2 (simpL_some hG hp)
  · right
    have hn := pf_no (L := L) (fun h => hp h.2)
    have hne : clL L ≠ [] := fun e => by
      apply hp
      refine (chordal_iff hG).2 (fun xs => ?_)
      cases hc : chlB L xs with
      | false => rfl
      | true => exact absurd e (hs.2 xs (hback xs hc)).1
    refine ⟨hn.2, by unfold clB; exact decide_eq_true (List.length_pos_iff.2 hne), ?_⟩
    rcases hs.1 with e | e
    · exact absurd e hne
    · exact hchl _ e
theorem chordal_off {L : List (List Int)} (hG : ¬ GraphP L) : poV L = false ∧ clB L = false :=
  ⟨(pf_no (fun h => hG h.1)).2, by unfold clB clL; rw [if_neg hG]; rfl⟩

end Go.Proofs.YtohjfcfcopbmoaaGreatDoor

/- From what a row's form reads as data to our words: a slice of int64, a slice of such slices, a graph. -/
namespace Go.Proofs.YtohjfcfcopbmoaaGreatDoor
open Go.ChangeShapes Go.WideShapes Go.ChangeAt Go.RowKit Go.Deep

theorem own : ownKnob Tryz.prog.godebug = none := by kernel_rfl
theorem laidOut : laidOutB Tryz.prog = true := by kernel_rfl

theorem i64_wf {n : Int} (h : (Lit.int .i64 n).wf = true) : I64 n := by
  have := bounds_i64 h
  unfold I64
  omega

section
variable {H : Type} {enc : TypeId × Value → H} {P : Program} {w : World} {base : Nat} {held : Bool}

theorem addr_none {a : Addr} {i : Nat} {v : Value} (h : w.cell? (a.add i) = some v) (hp : i = 0) : a.spot = none := by
  subst hp
  simpa [Addr.add] using World.cell?_spot h

theorem addr_form {a : Addr} (h : a.spot = none) (i : Nat) : a.add i = ⟨a.block, a.off + i, none⟩ := by
  obtain ⟨b, o, s⟩ := a
  simp at h
  subst h
  unfold Addr.add
  split
  · rename_i e; subst e; rfl
  · rfl

theorem rowAt_of {A : Option Addr} {n c : Nat} {zs : List Int} (hlen : zs.length = n) (hm : n ≤ maxLen) (hc : n ≤ c) (hcm : c ≤ maxLen) (hi : ∀ z ∈ zs, I64 z) (h0 : A = none → c = 0) (hcell : ∀ a, A = some a → ∀ i, i < n → w.cell? (a.add i) = some (.int .i64 (nth zs i))) : RowAt w (.slice A n c) zs := by
  refine ⟨hi, by omega, ?_⟩
  by_cases hz : n = 0
  · subst hz
    exact Or.inl ⟨List.length_eq_zero_iff.1 hlen, A, c, rfl, h0⟩
  · cases A with
    | none => exact absurd (h0 rfl) (by omega)
    | some a =>
      have hs := addr_none (hcell a rfl 0 (by omega)) rfl
      refine Or.inr ⟨a.block, a.off, c, ?_, by omega, hcm, fun i hi' => ?_⟩
      · obtain ⟨b, o, s⟩ := a
        simp at hs
        subst hs
        rw [hlen]
      · rw [← addr_form hs]
        exact hcell a rfl i (by omega)

theorem row_of_trod {t e : TypeId} {fuel : Nat} {v : Value} {x : DataW H × List MemPlace} (ht : P.underlying t = some (.slice e)) (he : P.underlying e = some (.int .i64)) (ce : P.cellsOf e = 1)
    (h : DataW.trod enc P w base (fun _ => true) held fuel t [v] = some x) : ∃ xs, RowAt w v xs := by
  rcases open_ints ht he ce h with ⟨hcs, _⟩ | ⟨a, l, c, zs, hcs, _, hl, hm, hz, _, hcell, hwz⟩
  · simp at hcs
    subst hcs
    exact ⟨[], by simp, by simp, Or.inl ⟨rfl, none, 0, rfl, fun _ => rfl⟩⟩
  · simp at hcs
    subst hcs
    simp only [if_true] at hz
    refine ⟨zs.take l, rowAt_of (by simp; omega) (by omega) hl hm (fun z hzz => i64_wf (hwz z (List.mem_of_mem_take hzz))) (by simp) (fun a' e i hi => ?_)⟩
    cases e
    rw [hcell i (by omega)]
    simp [nth, hi]

theorem grid_of_trod {t e q : TypeId} {fuel : Nat} {v : Value} {x : DataW H × List MemPlace} (ht : P.underlying t = some (.slice e)) (he : P.underlying e = some (.slice q)) (hq : P.underlying q = some (.int .i64)) (ce : P.cellsOf e = 1) (cq : P.cellsOf q = 1)
    (h : DataW.trod enc P w base (fun _ => true) held fuel t [v] = some x) : ∃ L, GridAt w v L := by
  rcases open_int_rows ht he hq ce cq h with ⟨hcs, _⟩ | ⟨a, len, cap, A, Ln, C, Z, hcs, _, hl, hm, _, hr⟩
  · simp at hcs
    subst hcs
    exact ⟨[], by simp, Or.inl ⟨rfl, none, 0, rfl, fun _ => rfl⟩⟩
  · simp at hcs
    subst hcs
    refine ⟨(List.range len).map (fun r => (Z r).take (Ln r)), by simp; omega, ?_⟩
    by_cases h0 : len = 0
    · subst h0
      exact Or.inl ⟨by simp, _, cap, rfl, fun h => by cases h⟩
    · have hs := addr_none (hr 0 (by omega)).1 rfl
      refine Or.inr ⟨a.block, a.off, cap, ?_, by simp; exact hl, hm, fun i hi => ?_⟩
      · obtain ⟨b, o, s⟩ := a
        simp at hs
        subst hs
        simp
      · have hi' : i < len := by simpa using hi
        obtain ⟨r1, r2, r3, r4, r5, r6, r7⟩ := hr i (by omega)
        refine ⟨.slice (A i) (Ln i) (C i), by rw [← addr_form hs]; exact r1, ?_⟩
        have e1 : nthR ((List.range len).map (fun r => (Z r).take (Ln r))) i = (Z i).take (Ln i) := by simp [nthR, hi']
        rw [e1]
        refine rowAt_of (by simp; omega) (by omega) r2 r3 (fun z hzz => i64_wf (r5 z (List.mem_of_mem_take hzz))) (fun e => r6 e) (fun a' e j hj => ?_)
        rw [(r7 a' e).2 j (by omega)]
        simp [nth, hj]

/-- A struct of one field of one cell, by value. -/
theorem open_agg1 {spare : Nat → Bool} {r : Go.Reach} {b0 : Nat} {t : TypeId} {f0 : Field} {v : Value} {d : DataW H} {p : List MemPlace} (hs : P.underlying t = some (.struct #[f0])) (h0 : f0.offset = 0) (h1 : P.cellsOf f0.type = 1) (hC : P.cellsOf t = 1)
    (hv : Value.okWide P w r b0 t v) (h : DataW.Trod enc P w base spare held t v d p) :
    ∃ (v0 : Value) (y0 : DataW H × List MemPlace) (n : Nat), v = .agg #[v0] ∧ DataW.trod enc P w base spare held n f0.type [v0] = some y0 := by
  obtain ⟨cs, rfl, hsz⟩ := okWide_struct hs hv
  have h2 : cs.size = 1 := hsz.trans hC
  obtain ⟨c0, rfl⟩ : ∃ c, cs = #[c] := by
    obtain ⟨l⟩ := cs
    match l, h2 with
    | [c], _ => exact ⟨c, rfl⟩
  obtain ⟨fuel, hf⟩ := h
  obtain ⟨y0, n, _, _, h3⟩ := trod_struct1 hs hf
  exact ⟨c0, y0, n, rfl, by simpa [Value.cells, h0, h1] using h3⟩

end

theorem Tryz.cells24 : Tryz.prog.cellsOf 24 = 1 := by kernel_rfl
theorem Tryz.cells34 : Tryz.prog.cellsOf 33 = 1 := by kernel_rfl
theorem Tryz.cells2 : Tryz.prog.cellsOf 2 = 1 := by kernel_rfl
theorem Tryz.cells38 : Tryz.prog.cellsOf 60 = 1 := by kernel_rfl

set_option maxRecDepth 100000 in
/-- An argument of type laws.Graph, opened. -/
theorem open_graph {H : Type} {enc : TypeId × Value → H} {W : World} {b0 : Nat} {v : Value} {d : DataW H} {p : List MemPlace} (hv : Value.okWide Tryz.prog W .any b0 60 v) (h : DataW.Trod enc Tryz.prog W 0 (fun _ => true) true 60 v d p) :
    ∃ g L, v = .agg #[g] ∧ GridAt W g L := by
  obtain ⟨g, y0, n, rfl, h0⟩ := open_agg1 Tryz.underlying60 rfl Tryz.cells24 Tryz.cells38 hv h
  obtain ⟨L, hL⟩ := grid_of_trod Tryz.underlying24 Tryz.underlying33 Tryz.underlying2 Tryz.cells34 Tryz.cells2 h0
  exact ⟨g, L, rfl, hL⟩

set_option maxRecDepth 100000 in
/-- An argument of type []int64, opened. -/
theorem open_row {H : Type} {enc : TypeId × Value → H} {W : World} {b0 : Nat} {v : Value} {d : DataW H} {p : List MemPlace} (hv : Value.okWide Tryz.prog W .any b0 33 v) (h : DataW.Trod enc Tryz.prog W 0 (fun _ => true) true 33 v d p) :
    ∃ L, RowAt W v L := by
  obtain ⟨a0, len, cap, rfl⟩ := okWide_slice Tryz.underlying33 hv
  obtain ⟨fuel, hf⟩ := h
  obtain ⟨L, hL⟩ := row_of_trod Tryz.underlying33 Tryz.underlying2 Tryz.cells2 hf
  exact ⟨L, hL⟩

set_option maxRecDepth 100000 in
/-- An argument of type [][]int64, opened. -/
theorem open_grid {H : Type} {enc : TypeId × Value → H} {W : World} {b0 : Nat} {v : Value} {d : DataW H} {p : List MemPlace} (hv : Value.okWide Tryz.prog W .any b0 24 v) (h : DataW.Trod enc Tryz.prog W 0 (fun _ => true) true 24 v d p) :
    ∃ L, GridAt W v L := by
  obtain ⟨a0, len, cap, rfl⟩ := okWide_slice Tryz.underlying24 hv
  obtain ⟨fuel, hf⟩ := h
  obtain ⟨L, hL⟩ := grid_of_trod Tryz.underlying24 Tryz.underlying33 Tryz.underlying2 Tryz.cells34 Tryz.cells2 hf
  exact ⟨L, hL⟩

end Go.Proofs.YtohjfcfcopbmoaaGreatDoor

/- From what a row's form reads as data to our words: a slice of bytes. -/
namespace Go.Proofs.YtohjfcfcopbmoaaGreatDoor
open Go.ChangeShapes Go.WideShapes Go.ChangeAt Go.RowKit Go.Deep

section
variable {H : Type} {enc : TypeId × Value → H} {P : Program} {w : World} {base : Nat} {held : Bool}

theorem u8_wf {n : Int} (h : (Lit.int .u8 n).wf = true) : 0 ≤ n ∧ n < 256 := by
  have h2 := bounds_u8 h
  omega

theorem bytes_of_trod {t e : TypeId} {fuel : Nat} {v : Value} {x : DataW H × List MemPlace} (ht : P.underlying t = some (.slice e)) (he : P.underlying e = some (.int .u8)) (ce : P.cellsOf e = 1)
    (h : DataW.trod enc P w base (fun _ => true) held fuel t [v] = some x) : ∃ a n c, v = .slice a n c ∧ (n ≤ 4096 → BytesAt w w.heap.size (.slice a n c) n) := by
  rcases open_ints ht he ce h with ⟨hcs, _⟩ | ⟨a, l, c, zs, hcs, _, hl, hm, hz, _, hcell, hwz⟩
  · simp at hcs
    exact ⟨none, 0, 0, hcs, fun _ => ⟨by omega, none, 0, rfl, fun h => absurd h (by omega)⟩⟩
  · simp at hcs
    refine ⟨some a, l, c, hcs, fun hl4 => ⟨hl4, some a, c, rfl, fun h0 => ?_⟩⟩
    simp only [if_true] at hz
    have hs := addr_none (hcell 0 (by omega)) rfl
    refine ⟨a.block, a.off, ?_, ?_, fun i hi => ?_⟩
    · obtain ⟨b, o, s⟩ := a
      simp at hs
      subst hs
      rfl
    · have h1 := hcell 0 (by omega)
      rw [addr_form hs] at h1
      exact block_lt_of_cell (a := ⟨a.block, a.off + 0, none⟩) h1
    · have h1 := hcell i (by omega)
      rw [addr_form hs] at h1
      have hmem : zs.getD i 0 ∈ zs := by
        have hi2 : i < zs.length := by omega
        rw [List.getD_eq_getElem?_getD, List.getElem?_eq_getElem hi2]
        exact List.getElem_mem hi2
      have h2 := u8_wf (hwz _ hmem)
      refine ⟨(zs.getD i 0).toNat, by omega, ?_⟩
      rw [h1, Int.toNat_of_nonneg h2.1]

end

theorem Tryz.cellsU8 : Tryz.prog.cellsOf 5 = 1 := by kernel_rfl

set_option maxRecDepth 100000 in
/-- An argument of type []byte, opened. -/
theorem open_bytes {H : Type} {enc : TypeId × Value → H} {W : World} {b0 : Nat} {v : Value} {d : DataW H} {p : List MemPlace} (hv : Value.okWide Tryz.prog W .any b0 22 v) (h : DataW.Trod enc Tryz.prog W 0 (fun _ => true) true 22 v d p) :
    ∃ a n c, v = .slice a n c ∧ (n ≤ 4096 → BytesAt W W.heap.size (.slice a n c) n) := by
  obtain ⟨a0, len, cap, rfl⟩ := okWide_slice Tryz.underlying22 hv
  obtain ⟨fuel, hf⟩ := h
  exact bytes_of_trod Tryz.underlying22 Tryz.underlying5 Tryz.cellsU8 hf

end Go.Proofs.YtohjfcfcopbmoaaGreatDoor
