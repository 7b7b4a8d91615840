/- Walks: ByDegree and ByFill of the program. -/
import Derived.Test.YtohjfcfcopbmoaaGreatDoorQCX2

namespace Go.Proofs.YtohjfcfcopbmoaaGreatDoor
open Go.RowKit

set_option maxHeartbeats 4000000 in
set_option maxRecDepth 100000 in
theorem elimL_any (g n : Nat) (A : Nat → Nat → Bool) (w : World) (h : RemBlk w g n (fun i => pm (A i)) (allL n)) (hrel : RelP n A) (hn : 1 ≤ n ∧ n ≤ 16) :
    Calls Tryz.prog 129 #[.pointer (some ⟨g, 0, none⟩), .func (.func 184) #[.pointer (some ⟨g, 0, none⟩)] #[]] w (GaveEl w g (grL (lackC A) n n)) := by
  obtain ⟨i0, hi, hz0, hz1, hz2⟩ := info_parts Tryz.infoI
  have hmk : ∀ (w : World), (Instr.makeSlice 33 (.int .i64 0) (.int .i64 (n : Int))).run Tryz.prog w = .ok (.slice (some ⟨w.heap.size, 0, none⟩) 0 n) (w.alloc (.cells (madeCells #[.int .i64 0] n) 2)) := fun w => by
    have := run_makeSlice (P := Tryz.prog) w 33 2 i0 (.int .i64 0) Tryz.underlying33 hi hz0 .i64 .i64 0 (n : Int) (Int.le_refl _) (by omega) (by rw [hz1]; simp; omega) (by rw [hz2]; omega) (by omega)
    rw [hz1] at this
    simpa [Value.cells] using this
  have hmany := h.many
  have hgl := h.lt
  rw [allL_len] at hmany
  have HREL := Lib.hid hrel
  have HB0 : Hid (Below w.heap.size w (w.alloc (.cells (madeCells #[.int .i64 0] n) 2))) := (Below.refl _ _).alloc (Nat.le_refl _) _
  have HW0 : Hid (ElW w g n A (lackC A) 0 (.slice (some ⟨w.heap.size, 0, none⟩) 0 n) (w.alloc (.cells (madeCells #[.int .i64 0] n) 2))) := by
    refine ⟨?_, made_row w w.heap.size n (Nat.le_refl _) (by unfold maxLen; omega), HB0.out.mono (by omega), HB0.out.size⟩
    have e : (remL (fun i => hasB (grL (lackC A) n 0) (i : Int)) n) = allL n := remL_all n
    rw [e]
    have e2 : webX A (grL (lackC A) n 0) = A := webX_nil A
    rw [e2]
    exact h.keep HB0.out
  clear h hrel
  go_enter Tryz.func129, Tryz.ntmps129
  go_wp2_with fail
  clear hmany
  go_loopw [5, 6] (fun v _ wr => ∃ k : Nat, k ≤ n ∧ ElW w g n A (lackC A) k v wr) (fun _ _ wr => (intOf ((wr.cell? ⟨g, 33, none⟩).getD undef)).toNat)
  case atStart => exact ⟨0, Nat.zero_le _, HW0.out⟩
  case round =>
    obtain ⟨k, hk, hw⟩ := hrel
    obtain ⟨ys, hys⟩ : ∃ ys, ys = grL (lackC A) n k := ⟨_, rfl⟩
    have hyl : ys.length = k := by rw [hys]; exact grL_len _ _ _
    have hout := hw.out
    have hrem := hw.rem
    rw [← hys] at hout hrem
    obtain ⟨a5, c5, e5⟩ := hout.row.slice
    rw [hyl] at e5
    subst e5
    have HOUT := Lib.hid hout
    have HREM := Lib.hid hrem
    have HBEL := Lib.hid hw.bel
    have HSIZ := Lib.hid hw.siz
    have hmany := hrem.many
    have HMY := Lib.hid hmany
    have HYS := Lib.hid hys
    have HYL := Lib.hid hyl
    by_cases hlt : k < n
    · obtain ⟨v, hv, ev, hnew⟩ := grL_best (c := lackC A) (n := n) hlt
      have HNX : Hid (grL (lackC A) n (k + 1) = ys ++ [(v : Int)]) := by show _ = _; rw [grL, ev, hys]
      rw [← hys] at ev hnew
      have hv16 : v < 16 := by omega
      have hlen := remL_some hv hnew
      have hl16 : (remL (fun v => hasB ys (v : Int)) n).length ≤ 16 := Nat.le_trans (remL_len _ _) hn.2
      have hpos : (((remL (fun v => hasB ys (v : Int)) n).length : Nat) : Int) > 0 := by omega
      have HMIN : Hid (minTo (fun i => lackV (webX A ys) i) (remL (fun v => hasB ys (v : Int)) n) ((remL (fun v => hasB ys (v : Int)) n).length - 1) = (v : Int)) := by show _ = _; rw [minTo_best _ _ _ hlen]; exact ev
      obtain ⟨k0, q1, q2, q3, q4⟩ := remL_off (ys := ys) hv hnew
      have HLL : Hid ((remL (fun i => hasB (ys ++ [(v : Int)]) (i : Int)) n).length < (remL (fun v => hasB ys (v : Int)) n).length) := by show _ < _; rw [← q4, offL_len q1]; omega
      have HCUT : Hid (cutA (knitA (webX A ys) v) v = webX A (ys ++ [(v : Int)])) := web_cut A hnew
      have HEL : Hid (∀ V, RemBlk V g n (fun i => pm (webX A ys i)) (remL (fun v => hasB ys (v : Int)) n) → Calls Tryz.prog 199 #[.pointer (some ⟨g, 0, none⟩), .int .i64 (v : Int)] V fun e w' => e = .returned (.tuple #[]) ∧ RemBlk w' g n (fun i => pm (cutA (knitA (webX A ys) v) v i)) (remL (fun i => hasB (ys ++ [(v : Int)]) (i : Int)) n) ∧ Touched g (g + 1) V w') :=
        fun V hV => remEliminate_any _ g n v k0 n (webX A ys) _ V hV hl16 q1 q2 q3 (remL_i64 _ hn.2) hv16 (webX_rel HREL.out _) q4
      clear hys hyl hw ev hnew q1 q2 q3 q4 hout hrem
      go_wp2_with fail
      refine (remCheapL_any g n (webX A ys) _ _ HREM.out (webX_rel HREL.out _).sym hlen hl16 (remL_at _ hn.2)).mono ?_
      rintro e w6 ⟨rfl, hb6⟩
      rw [HMIN.out]
      have HR6 := Lib.hid (HREM.out.keep hb6)
      have HO6 := Lib.hid (HOUT.out.keep hb6)
      have HB6 : Hid (Below g w w6) := HBEL.out.trans (hb6.mono (by have := HREM.out.lt; omega))
      have HZ6 : Hid (w.heap.size ≤ w6.heap.size) := Nat.le_trans HSIZ.out hb6.size
      clear hb6 hmany hpos
      go_wp2_with fail
      refine (HEL.out _ HR6.out).mono ?_
      rintro e w8 ⟨rfl, hr8, ht8⟩
      have HR8 := Lib.hid hr8
      have HO8 : Hid (OwnRow 2 w8 w.heap.size (.slice a5 k c5) ys) := HO6.out.touched ht8 (by omega)
      have HB8 : Hid (Below g w w8) := HB6.out.trans (ht8.below (by have := HZ6.out; omega))
      have HZ8 : Hid (w.heap.size ≤ w8.heap.size) := Nat.le_trans HZ6.out ht8.size
      clear hr8 ht8
      have HWO : Hid (w8.ownsRow w.heap.size 2 1 (.slice a5 k c5) k (ys.map (Value.int .i64))) := by
        have h := HO8.out.owns
        rw [HYL.out] at h
        exact h
      go_wp2_with (at_builtin; refine wpList_append_own _ rfl (.tmp 23) (.tmp 25) 33 rfl w.heap.size 2 i0 (.int .i64 0) 1 8 Tryz.underlying33 hi hz0 hz1 hz2 rfl (by decide) _ _ _ rfl (HWO.out.alloc _) ⟨w8.heap.size, 0, none⟩ 1 1 [.int .i64 (v : Int)] rfl rfl (lit1 _ _ _) (one1 _) (by unfold maxLen; omega) (by omega) (by have := HZ8.out; simp; omega) ?_)
      intro v12 w12 hown12 hgrow12 _
      have hb12 : Below w.heap.size w8 w12 := ((Below.refl _ _).alloc HZ8.out _).grown hgrow12 (by have := HZ8.out; simp; omega) (fun j hj => (HWO.out.lt j hj).1)
      have HR12 := Lib.hid (HR8.out.keepB hb12 hgl)
      have HM12 := Lib.hid HR12.out.many
      have HME : Hid ((intOf ((w12.cell? ⟨g, 33, none⟩).getD undef)).toNat < (intOf ((wr.cell? ⟨g, 33, none⟩).getD undef)).toNat) := by
        show _ < _
        rw [HM12.out, HMY.out]
        exact HLL.out
      have HEND : Hid (ElW w g n A (lackC A) (k + 1) v12 w12) := by
        refine ⟨?_, ?_, HB8.out.trans (hb12.mono (by omega)), Nat.le_trans HZ8.out hb12.size⟩
        · rw [HNX.out, ← HCUT.out]
          exact HR12.out
        · rw [HNX.out]
          exact OwnRow.of_ownsRow (xs := ys ++ [(v : Int)]) (n := k + 1) (by simpa using hown12) (by rw [List.length_append, HYL.out, List.length_singleton]; unfold maxLen; omega) (fun z hz => by
            rcases List.mem_append.1 hz with hz | hz
            · exact HO8.out.1 z hz
            · rw [List.mem_singleton] at hz; subst hz; unfold I64; omega)
      clear hown12 hgrow12 hb12
      go_wp2
      go_roundw
      case rel => exact ⟨k + 1, by omega, HEND.out⟩
      case measure => exact HME.out
    · obtain rfl : k = n := by omega
      have h0 : (remL (fun v => hasB ys (v : Int)) k).length = 0 := remL_none (by rw [hys]; exact grL_ord _ _)
      rw [h0] at hmany
      have HEND : Hid (GaveEl w g (grL (lackC A) k k) (.returned (.slice a5 k c5)) wr) := ⟨_, _, _, rfl, by rw [← HYS.out]; exact HOUT.out, HBEL.out, HSIZ.out⟩
      clear hys hyl hw hout hrem h0
      go_wp2
      go_ret
      exact HEND.out


def byFillL (L : List (List Int)) : List Int := if GraphP L then grL (lackC (adjB L)) L.length L.length else []
set_option maxHeartbeats 4000000 in
set_option maxRecDepth 100000 in
theorem implByFill_any (v : Value) (L : List (List Int)) (w : World) (h : GridAt w v L) : Calls Tryz.prog 96 #[.agg #[v]] w (GaveRow w (byFillL L)) := by
  have hmf : ∀ (fn : Fn) (first cap : Array Value) (w : World), (Instr.makeFunc fn first cap).run Tryz.prog w = .ok (.func fn first cap) w := fun _ _ _ _ => rfl
  obtain ⟨a0, c0, rfl⟩ := h.slice
  have HGK : Hid (∀ w', Below w.heap.size w w' → GridAt w' (.slice a0 L.length c0) L) := fun w' hb => h.keep hb
  have HB0 : Hid (Below w.heap.size w (w.alloc (.cells #[.slice a0 L.length c0] 26))) := (Below.refl _ _).alloc (Nat.le_refl _) _
  clear h
  go_enter Tryz.func96, Tryz.ntmps96
  go_wp2_with fail
  refine (netOf_any _ L _ (HGK.out _ HB0.out)).mono ?_
  rintro e w1 ⟨rfl, hb1⟩
  have HB1 : Hid (Below w.heap.size w w1) := HB0.out.trans (hb1.mono HB0.out.size)
  have hz1 := HB1.out.size
  have hnb := netBlk_new w1 0 (fun _ => 0)
  clear hb1 HGK HB0
  by_cases hG : GraphP L
  · have hz := hG.1
    have HREL := Lib.hid (adjB_rel hG)
    have HRM : Hid (∀ i, i < 16 → rowM L i = pm (adjB L i)) := fun i _ => by rw [rowM_pm hG]
    have HF : Hid (byFillL L = grL (lackC (adjB L)) L.length L.length) := if_pos hG
    rw [decide_eq_true hG, netArr_yes hG]
    clear hG
    go_wp2_with (refine wpList_store_net rfl 83 (.tmp 3) (.tmp 9) rfl w1.heap.size L.length (rowM L) rfl rfl Tryz.sizeNet 0 (fun _ => 0) hnb ?_; intro w2 hp; have HN2 := Lib.hid (hp.net.congr rfl HRM.out); have HB2 : Hid (Below w.heap.size w w2) := (HB1.out.alloc hz1 _).trans (hp.below.mono hz1); clear hp)
    refine (remains_any w1.heap.size L.length _ _ HN2.out hz (fun i => pm_lt _)).mono ?_
    rintro e w3 ⟨lf, rfl, hlf, hb3⟩
    have HB3 : Hid (Below w.heap.size w w3) := HB2.out.trans (hb3.mono HB2.out.size)
    have hnew : (w3.alloc (.cells (remArr 0 (fun _ => 0) (fun _ => 0) 0) 138)).heap[w3.heap.size]? = some (.cells (remArr 0 (fun _ => 0) (fun _ => 0) 0) 138 (0, 0)) := heap_alloc_new _ _
    have HNEW := Lib.hid hnew
    have HLF := Lib.hid hlf
    clear hb3 hlf hnew hnb
    go_wp2_with (refine wpList_store_row rfl 138 (.tmp 5) (.tmp 13) rfl w3.heap.size (remArr L.length (fun i => pm (adjB L i)) lf L.length) rfl rfl 138 (remArr 0 (fun _ => 0) (fun _ => 0) 0) HNEW.out Tryz.sizeRem rfl (remArr_one _ _ _ _) ?_)
    obtain ⟨w5, hw5⟩ : ∃ w5, w5 = (w3.alloc (.cells (remArr 0 (fun _ => 0) (fun _ => 0) 0) 138)).setRow w3.heap.size (remArr L.length (fun i => pm (adjB L i)) lf L.length) := ⟨_, rfl⟩
    have hg5 : w5.heap[w3.heap.size]? = some (.cells (remArr L.length (fun i => pm (adjB L i)) lf L.length) 138 (0, 0)) := by rw [hw5]; exact setRow_heap _ _ _ _ 138 _ HNEW.out
    have hb5 : Below w3.heap.size w3 w5 := by
      rw [hw5]
      exact ((Below.refl _ _).alloc (Nat.le_refl _) _).trans ⟨rfl, rfl, rfl, by simp [World.setRow], fun k hk => setRow_other _ w3.heap.size k _ (by omega)⟩
    have HB5 : Hid (Below w.heap.size w w5) := HB3.out.trans (hb5.mono HB3.out.size)
    have HRB : Hid (RemBlk w5 w3.heap.size L.length (fun i => pm (adjB L i)) (allL L.length)) := by
      refine ⟨lf, ?_, ?_⟩
      · rw [allL_len]
        exact remArr_row hg5
      · intro i hi
        rw [allL_len] at hi
        rw [HLF.out i hi]
        simp [nth, allL, hi]
    change Calls _ _ _ (World.setRow (w3.alloc (.cells (remArr 0 (fun _ => 0) (fun _ => 0) 0) 138)) w3.heap.size (remArr L.length (fun i => pm (adjB L i)) lf L.length)) _
    rw [← hw5]
    clear hw5 hg5 hb5 HNEW HLF
    refine (elimL_any w3.heap.size L.length (adjB L) _ HRB.out HREL.out hz).mono ?_
    rintro e w6 ⟨a6, m6, c6, rfl, ho6, hb6, hz6⟩
    have HO6 : Hid (OwnRow 2 w6 w.heap.size (.slice a6 m6 c6) (byFillL L)) := by rw [HF.out]; exact ho6.mono HB5.out.size
    have HB6 : Hid (Below w.heap.size w w6) := HB5.out.trans (hb6.mono HB3.out.size)
    clear ho6 hb6 hz6
    go_wp2
    go_ret
    exact ⟨_, _, _, rfl, HO6.out, HB6.out⟩
  · have HI : Hid (byFillL L = []) := if_neg hG
    rw [decide_eq_false hG, netArr_no hG]
    clear hG
    go_wp2_with (refine wpList_store_net rfl 83 (.tmp 3) (.tmp 9) rfl w1.heap.size 0 (fun _ => 0) rfl rfl Tryz.sizeNet 0 (fun _ => 0) hnb ?_; intro w3 hp; have HB3 : Hid (Below w.heap.size w w3) := (HB1.out.alloc hz1 _).trans (hp.below.mono hz1); clear hp)
    go_ret
    exact ⟨0, none, 0, rfl, by rw [HI.out]; exact ⟨by simp, by simp, Or.inl ⟨rfl, rfl⟩⟩, HB3.out⟩

end Go.Proofs.YtohjfcfcopbmoaaGreatDoor
