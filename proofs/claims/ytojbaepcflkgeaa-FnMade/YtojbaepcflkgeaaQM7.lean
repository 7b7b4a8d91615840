/- The texts M7, M8, joined. -/
import Derived.Test.YtojbaepcflkgeaaQM4
import Derived.Deep.RegionHeld3

/- Walks: all vertices, all but one; a vertex cut. -/
namespace Go.Proofs.Ytojbaepcflkgeaa
open Go.RowKit

/-- The numbers below n. -/
def allL (n : Nat) : List Int := (List.range n).map (fun i : Nat => (i : Int))
theorem allL_len (n : Nat) : (allL n).length = n := by simp [allL]
theorem allL_succ (n : Nat) : allL (n + 1) = allL n ++ [(n : Int)] := by simp [allL, List.range_succ]
theorem allL_mem (n : Nat) (z : Int) : z ∈ allL n ↔ ∃ i : Nat, i < n ∧ (i : Int) = z := by simp [allL]
theorem allL_pair (n : Nat) : (allL n).Pairwise (· < ·) := by
  unfold allL
  rw [List.pairwise_map]
  exact List.Pairwise.imp (fun h => by omega) List.pairwise_lt_range

set_option maxHeartbeats 800000 in
theorem l1All_any (n : Nat) (w : World) (hn : n ≤ 16) : Calls Try.prog 56 #[.int .i64 (n : Int)] w (GaveRow w (allL n)) := by
  obtain ⟨i0, hi, hz0, hz1, hz2⟩ := info_parts Try.infoI
  have hown0 : (w.alloc (.cells #[] 2)).ownsRow w.heap.size 2 1 (.slice (some ⟨w.heap.size, 0, none⟩) 0 0) 0 [] := World.ownsRow_lit w #[] 0 (Nat.le_refl _) (Nat.zero_le _) rfl
  have HO0 := Lib.hid hown0
  clear hown0
  go_enter Try.func56, Try.ntmps56
  go_wp2_with fail
  go_loopw [3, 4] (fun s i wr => ∃ k : Nat, k ≤ n ∧ i = .int .i64 k ∧ wr.ownsRow w.heap.size 2 1 s (allL k).length ((allL k).map (Value.int .i64)) ∧ Below w.heap.size w wr ∧ w.heap.size ≤ wr.heap.size) (fun _ i _ => n - (intOf i).toNat)
  case atStart => exact ⟨0, Nat.zero_le _, rfl, HO0.out, (Below.refl _ _).alloc (Nat.le_refl _) _, by simp⟩
  case round =>
    obtain ⟨k, hk, rfl, ho, hb, hz⟩ := hrel
    have HO := Lib.hid ho
    have HB := Lib.hid hb
    have hll := allL_len k
    have HLL := Lib.hid hll
    clear ho hb hll
    by_cases hlt : k < n
    · go_wp2_with (at_builtin; refine wpList_append_own _ rfl (.tmp 11) (.tmp 13) 35 rfl w.heap.size 2 i0 (.int .i64 0) 1 8 Try.underlying35 hi hz0 hz1 hz2 rfl (by decide) _ _ _ rfl (HO.out.alloc _) ⟨wr.heap.size, 0, none⟩ 1 1 [.int .i64 (k : Int)] rfl rfl ?d1 ?d2 ?d3 ?d4 ?d5 ?_)
      case d1 =>
        intro j u hj
        match j, hj with
        | 0, hj => simp at hj; subst hj; simp [Addr.add]
      case d2 => intro u hu; simp at hu; subst hu; rfl
      case d3 => rw [HLL.out]; unfold maxLen; omega
      case d4 => rw [HLL.out]; omega
      case d5 => simp; omega
      intro v4 w4 hown4 hgrow4 _
      have hb4 : Below w.heap.size w w4 := (HB.out.alloc hz _).grown hgrow4 (by simp; omega) (fun j hj => (HO.out.lt j hj).1)
      have HO4 := Lib.hid hown4
      have HB4 := Lib.hid hb4
      clear hown4 hgrow4 hb4
      go_wp2
      go_roundw
      case rel =>
        refine ⟨k + 1, by omega, by go_num, ?_, HB4.out, HB4.out.size⟩
        rw [allL_succ]
        simpa using HO4.out
      case measure => simp [intOf]; omega
    · obtain rfl : k = n := by omega
      have hro : OwnRow 2 wr w.heap.size _ (allL k) := OwnRow.of_ownsRow (n := (allL k).length) HO.out (by rw [HLL.out]; unfold maxLen; omega) (fun x hx => by obtain ⟨i, h1, rfl⟩ := (allL_mem k x).1 hx; unfold I64; omega)
      obtain ⟨a4, c4, e4⟩ := hro.row.slice
      have HP : Hid (GaveRow w (allL k) (.returned (.slice a4 (allL k).length c4)) wr) := ⟨_, a4, c4, rfl, by rw [← e4]; exact hro, HB.out⟩
      rw [e4]
      clear hro e4
      go_wp2
      go_ret
      exact HP.out

/-- A list without x. -/
def wo (xs : List Int) (x : Int) : List Int := xs.filter (fun y => y != x)
theorem wo_len (xs : List Int) (x : Int) : (wo xs x).length ≤ xs.length := List.length_filter_le _ _
theorem wo_mem (xs : List Int) (x z : Int) : z ∈ wo xs x ↔ z ∈ xs ∧ z ≠ x := by simp [wo]
theorem wo_take {xs : List Int} {k : Nat} (x : Int) (hk : k < xs.length) : wo (xs.take (k + 1)) x = wo (xs.take k) x ++ if (nth xs k != x) = true then [nth xs k] else [] := by
  rw [List.take_succ_eq_append_getElem hk, nth_eq hk]
  unfold wo
  rw [List.filter_append]
  congr 1
  by_cases h : (xs[k] != x) = true
  · rw [if_pos h]; simp only [List.filter_cons, h, if_true, List.filter_nil]
  · rw [if_neg h]; simp only [List.filter_cons, h, List.filter_nil]; rfl

set_option maxHeartbeats 800000 in
theorem l2Without_any (v : Value) (xs : List Int) (x : Int) (w : World) (h : RowAt w v xs) (hs : xs.length ≤ 1000000) : Calls Try.prog 55 #[v, .int .i64 x] w (GaveRow w (wo xs x)) := by
  obtain ⟨i0, hi, hz0, hz1, hz2⟩ := info_parts Try.infoI
  have hown0 : (w.alloc (.cells #[] 2)).ownsRow w.heap.size 2 1 (.slice (some ⟨w.heap.size, 0, none⟩) 0 0) 0 [] := World.ownsRow_lit w #[] 0 (Nat.le_refl _) (Nat.zero_le _) rfl
  have HO0 := Lib.hid hown0
  have HR := Lib.hid h
  obtain ⟨a, c, rfl⟩ := h.slice
  clear hown0 h
  go_enter Try.func55, Try.ntmps55
  go_wp2_with fail
  go_loopw [5, 6] (fun s i wr => ∃ k : Nat, k ≤ xs.length ∧ i = .int .i64 k ∧ wr.ownsRow w.heap.size 2 1 s (wo (xs.take k) x).length ((wo (xs.take k) x).map (Value.int .i64)) ∧ Below w.heap.size w wr ∧ w.heap.size ≤ wr.heap.size) (fun _ i _ => xs.length - (intOf i).toNat)
  case atStart => exact ⟨0, Nat.zero_le _, rfl, HO0.out, (Below.refl _ _).alloc (Nat.le_refl _) _, by simp⟩
  case round =>
    obtain ⟨k, hk, rfl, ho, hb, hz⟩ := hrel
    have HO := Lib.hid ho
    have HB := Lib.hid hb
    have hll : (wo (xs.take k) x).length ≤ 1000000 := by have := wo_len (xs.take k) x; rw [List.length_take] at this; omega
    clear ho
    by_cases hlt : k < xs.length
    · obtain ⟨b, o, c', e2, l1, l2, hc⟩ := HR.out.pos (by omega)
      simp only [Value.slice.injEq, true_and] at e2
      obtain ⟨rfl, rfl⟩ := e2
      have hck := cell_keep hb (hc k hlt)
      have hck2 : (wr.alloc (.cells #[.int .i64 (nth xs k)] 2)).cell? ⟨b, o + k, none⟩ = some (.int .i64 (nth xs k)) := cell_keep ((Below.refl _ _).alloc (Nat.le_refl _) _) hck
      have HT := Lib.hid (wo_take x hlt)
      clear hc hb
      by_cases hne : (nth xs k != x) = true
      · have HNE := Lib.hid hne
        go_wp2_with (at_builtin; refine wpList_append_own _ rfl (.tmp 20) (.tmp 25) 35 rfl w.heap.size 2 i0 (.int .i64 0) 1 8 Try.underlying35 hi hz0 hz1 hz2 rfl (by decide) _ _ _ rfl (HO.out.alloc _) ⟨wr.heap.size, 0, none⟩ 1 1 [.int .i64 (nth xs k)] rfl rfl ?d1 ?d2 ?d3 ?d4 ?d5 ?_)
        case d1 =>
          intro j u hj
          match j, hj with
          | 0, hj => simp at hj; subst hj; simp [Addr.add]
        case d2 => intro u hu; simp at hu; subst hu; rfl
        case d3 => unfold maxLen; omega
        case d4 => omega
        case d5 => simp; omega
        intro v4 w4 hown4 hgrow4 _
        have hb4 : Below w.heap.size w w4 := (HB.out.alloc hz _).grown hgrow4 (by simp; omega) (fun j hj => (HO.out.lt j hj).1)
        have HO4 := Lib.hid hown4
        have HB4 := Lib.hid hb4
        clear hown4 hgrow4 hb4 hck hck2 hne
        go_wp2
        go_roundw
        case rel =>
          refine ⟨k + 1, by omega, by go_num, ?_, HB4.out, HB4.out.size⟩
          rw [HT.out, if_pos HNE.out]
          simpa using HO4.out
        case measure => simp [intOf]; omega
      · have hne' : (nth xs k != x) = false := by simpa using hne
        have HNE := Lib.hid hne
        clear hne hck2
        go_wp2
        go_roundw
        case rel =>
          refine ⟨k + 1, by omega, by go_num, ?_, HB.out, hz⟩
          rw [HT.out, if_neg HNE.out, List.append_nil]
          exact HO.out
        case measure => simp [intOf]; omega
    · obtain rfl : k = xs.length := by omega
      have hro : OwnRow 2 wr w.heap.size _ (wo (xs.take xs.length) x) := OwnRow.of_ownsRow (n := (wo (xs.take xs.length) x).length) HO.out (by unfold maxLen; omega) (fun z hz => HR.out.1 z (by rw [List.take_length] at hz; exact ((wo_mem _ _ _).1 hz).1))
      rw [List.take_length] at hro
      obtain ⟨a4, c4, e4⟩ := hro.row.slice
      have HP : Hid (GaveRow w (wo xs x) (.returned (.slice a4 (wo xs x).length c4)) wr) := ⟨_, a4, c4, rfl, by rw [← e4]; exact hro, HB.out⟩
      rw [e4]
      clear hro e4 hb
      go_wp2
      go_ret
      exact HP.out

/-- The vertices below n but x, rising. -/
def restL (n x : Nat) : List Int := listM (clrM (2 ^ n - 1) (2 ^ x))
theorem restL_mem {n x : Nat} (hn : n ≤ 16) (hx : x < n) (z : Int) : z ∈ restL n x ↔ ∃ i : Nat, i < n ∧ i ≠ x ∧ (i : Int) = z := by
  unfold restL
  rw [listM_mem]
  constructor
  · rintro ⟨i, h1, h2, h3⟩
    rw [clrM_bit (whole_lt hn) (pow_lt16 (by omega)), whole_bit, Nat.testBit_two_pow] at h2
    simp at h2
    exact ⟨i, h2.1, fun e => h2.2 e.symm, h3⟩
  · rintro ⟨i, h1, h2, h3⟩
    refine ⟨i, by omega, ?_, h3⟩
    rw [clrM_bit (whole_lt hn) (pow_lt16 (by omega)), whole_bit, Nat.testBit_two_pow]
    simp
    exact ⟨h1, fun e => h2 e.symm⟩
theorem wo_all {n x : Nat} (hn : n ≤ 16) (hx : x < n) : wo (allL n) (x : Int) = restL n x := by
  refine sets_eq (SetP.mk ?_ ?_) (listM_set _) (fun z => ?_)
  · exact (allL_pair n).sublist List.filter_sublist
  · intro z hz
    obtain ⟨i, h1, rfl⟩ := (allL_mem n z).1 ((wo_mem _ _ _).1 hz).1
    omega
  · rw [wo_mem, allL_mem, restL_mem hn hx]
    constructor
    · rintro ⟨⟨i, h1, rfl⟩, h2⟩; exact ⟨i, h1, fun e => h2 (by rw [e]), rfl⟩
    · rintro ⟨i, h1, h2, rfl⟩; exact ⟨⟨i, h1, rfl⟩, fun e => h2 (by omega)⟩
theorem restL_len (n x : Nat) : (restL n x).length ≤ 16 := listM_len _
theorem restL_pos {n x : Nat} (hn : n ≤ 16) (hx : x < n) (h2 : 2 ≤ n) : 0 < (restL n x).length := by
  have : ((if x = 0 then 1 else 0 : Nat) : Int) ∈ restL n x := by
    rw [restL_mem hn hx]
    refine ⟨if x = 0 then 1 else 0, ?_, ?_, rfl⟩
    · split <;> omega
    · split <;> omega
  exact List.length_pos_of_mem this
theorem restL_in {n x : Nat} (hn : n ≤ 16) (hx : x < n) (i : Nat) (hi : i < (restL n x).length) : 0 ≤ nth (restL n x) i ∧ nth (restL n x) i < (n : Int) := by
  obtain ⟨j, h1, _, h3⟩ := (restL_mem hn hx _).1 (nth_mem hi)
  rw [← h3]; omega

end Go.Proofs.Ytojbaepcflkgeaa

/- Walks: a vertex cut. -/
namespace Go.Proofs.Ytojbaepcflkgeaa
open Go.RowKit

/-- May this vertex be cut? -/
def cutB (L : List (List Int)) (x : Int) : Bool := decide (GraphP L) && inB x 0 ((L.length : Int) - 1) && !((L.length : Int) == 1)
theorem cutB_yes {L : List (List Int)} {x : Int} (h : cutB L x = true) : GraphP L ∧ 0 ≤ x ∧ x < (L.length : Int) ∧ 2 ≤ L.length ∧ L.length ≤ 16 := by
  unfold cutB inB at h
  simp at h
  have := h.1.1.1
  exact ⟨h.1.1, h.1.2.1, by omega, by omega, by omega⟩
/-- The graph without the vertex. -/
def cutL (L : List (List Int)) (x : Int) : List (List Int) := pickL L (restL L.length x.toNat) (cutB L x)
theorem cutL_small (L : List (List Int)) (x : Int) : Small (cutL L x) := pickL_small (fun _ => restL_len _ _)
theorem cutL_no {L : List (List Int)} {x : Int} (h : cutB L x = false) : cutL L x = [] := by rw [cutL, h]; rfl

set_option maxHeartbeats 1600000 in
theorem specCutVertex_any (v : Value) (L : List (List Int)) (x : Int) (w : World) (h : GridAt w v L) (_hx : I64 x) : Calls Try.prog 26 #[.agg #[v], .int .i64 x] w (GaveGB w (cutL L x) (cutB L x)) := by
  obtain ⟨a0, c0, rfl⟩ := h.slice
  have T0 := Lib.hid (Two.start w (.slice a0 L.length c0))
  have HGK : Hid (∀ w', Below w.heap.size w w' → GridAt w' (.slice a0 L.length c0) L) := fun w' hb => h.keep hb
  clear h
  go_enter Try.func26, Try.ntmps26
  go_wp2_with fail
  refine (specGraphOk_any _ _ _ (HGK.out _ T0.out.bel)).mono ?_
  rintro e w1 ⟨rfl, hb1⟩
  have T1 := Lib.hid (T0.out.keep hb1)
  clear hb1 T0
  by_cases hG : GraphP L
  · have hz := hG.1
    have HG := Lib.hid hG
    have kb1 := T1.out.arg.1
    rw [decide_eq_true hG]
    clear hG
    go_wp2_with fail
    refine (l1There_any _ L x _ (HGK.out _ T1.out.bel)).mono ?_
    rintro e w2 ⟨rfl, hb2⟩
    have T2 := Lib.hid (T1.out.keep hb2)
    clear hb2 T1 kb1
    by_cases hin : inB x 0 ((L.length : Int) - 1) = true
    · have kb2 := T2.out.arg.1
      have HIN := Lib.hid hin
      have hxx : 0 ≤ x ∧ x ≤ (L.length : Int) - 1 := by simpa [inB] using hin
      rw [hin]
      clear hin
      go_wp2_with fail
      refine (l1Size_any _ L _ (HGK.out _ T2.out.bel)).mono ?_
      rintro e w3 ⟨rfl, hb3⟩
      have T3 := Lib.hid (T2.out.keep hb3)
      clear hb3 T2 kb2
      by_cases h1 : L.length = 1
      · have HI : Hid (cutB L x = false) := by show cutB L _ = false; unfold cutB; rw [h1]; simp
        have he : ((L.length : Int) == 1) = true := by rw [h1]; rfl
        have kr := T3.out.res.1
        have kf := T3.out.res.2
        clear h1
        go_wp2
        exact bodyPost_ret (v := .tuple #[.agg #[.slice none 0 0], .bool false]) (by simp [results, Try.results26, go_sem, T3.out.q0]) rfl (T3.out.no (cutL_no HI.out) HI.out)
      · have HI : Hid (cutB L x = true) := by show cutB L _ = true; unfold cutB; rw [decide_eq_true HG.out, HIN.out]; simp; omega
        have he : ((L.length : Int) == 1) = false := by rw [beq_eq_false_iff_ne]; omega
        obtain ⟨y, rfl⟩ : ∃ y : Nat, x = (y : Int) := ⟨x.toNat, by omega⟩
        have hy : y < L.length := by omega
        have h2 : 2 ≤ L.length := by omega
        have HXI : Hid (InP L (restL L.length y)) := fun i hi => restL_in hz.2 hy i hi
        have HWO := Lib.hid (wo_all hz.2 hy)
        have kb3 := T3.out.arg.1
        have kr3 := T3.out.res.1
        have kf3 := T3.out.res.2
        clear h1 hxx
        go_wp2_with fail
        go_region_held3 (fun wx => wx.cell? ⟨w.heap.size, 0, none⟩ = some (.slice a0 L.length c0)) (first | exact kb3 | exact kba | exact kbb | exact kbc | exact kbd | exact (cell_set_other _ (fun e => by simp at e)).trans kbd)
          (first
            | (go_at_call 51; refine (l1Size_any _ L _ (HGK.out _ T3.out.bel.drew)).mono ?_; rintro e wa ⟨rfl, hba⟩; have TA := Lib.hid ((T3.out.keep (Below.refl _ _).drew).keep hba); have kba := TA.out.arg.1; clear hba)
            | (go_at_call 56; refine (l1All_any L.length _ hz.2).mono ?_; rintro e wb ⟨nb, ab, cb, rfl, hob, hbb⟩; have TB := Lib.hid (TA.out.keep hbb); have kbb := TB.out.arg.1; have HOB := Lib.hid hob; clear hob hbb)
            | (go_at_call 55; refine (l2Without_any _ (allL L.length) (y : Int) _ HOB.out.row (by rw [allL_len]; omega)).mono ?_; rintro e wc ⟨nc, ac, cc, rfl, hoc, hbc⟩; have HOC : Hid (OwnRow 2 wc wb.heap.size (.slice ac nc cc) (restL L.length y)) := (by rw [HWO.out] at hoc; exact hoc); have TC := Lib.hid (TB.out.keep hbc); have kbc := TC.out.arg.1; clear hoc hbc)
            | (go_at_call 54; refine (l2Of_any _ _ L (restL L.length y) (pickA L (restL L.length y)) _ (HGK.out _ TC.out.bel) HOC.out.row (restL_pos hz.2 hy h2) (restL_len _ _) HXI.out (pickA_spec HG.out HXI.out) (pickA_sym HG.out _) (pickA_self HG.out _) (fun i j => pickA_range)).mono ?_; rintro e wd ⟨nd, ad, cd, rfl, hod, hbd⟩; have TD := Lib.hid (TC.out.keep hbd); have kbd := TD.out.arg.1; have krd := TD.out.res.1; have kfd := TD.out.res.2; have HOD := Lib.hid hod; clear hod hbd))
        go_wp2
        refine bodyPost_ret (v := .tuple #[.agg #[.slice ad nd cd], .bool true]) (by simp [results, Try.results26, go_sem, TD.out.q0]) rfl (TD.out.yes (B := wc.heap.size) ?_ TC.out.lt HI.out)
        rw [cutL, pickL, if_pos HI.out, Int.toNat_natCast]
        exact HOD.out
    · have hin' : inB x 0 ((L.length : Int) - 1) = false := by simpa using hin
      have HI : Hid (cutB L x = false) := by show cutB L x = false; unfold cutB; rw [hin']; simp
      have kr := T2.out.res.1
      have kf := T2.out.res.2
      rw [hin']
      clear hin hin'
      go_wp2
      exact bodyPost_ret (v := .tuple #[.agg #[.slice none 0 0], .bool false]) (by simp [results, Try.results26, go_sem, T2.out.q0]) rfl (T2.out.no (cutL_no HI.out) HI.out)
  · have HI : Hid (cutB L x = false) := by show cutB L x = false; unfold cutB; rw [decide_eq_false hG]; simp
    have kr := T1.out.res.1
    have kf := T1.out.res.2
    rw [decide_eq_false hG]
    clear hG
    go_wp2
    exact bodyPost_ret (v := .tuple #[.agg #[.slice none 0 0], .bool false]) (by simp [results, Try.results26, go_sem, T1.out.q0]) rfl (T1.out.no (cutL_no HI.out) HI.out)

end Go.Proofs.Ytojbaepcflkgeaa
