/- The texts N4, N5, N6, N7, joined. -/
import Derived.Test.YtikfbfclbmlopaaQ2
import Derived.Deep.DeepCutAuto
import Derived.ArgAppend

/- Walks: an edge cut. -/
namespace Go.Proofs.Ytikfbfclbmlopaa
open Go.RowKit

/-- The boxes of a function at work on a copy: its graph's, its result's, that of the copy, and the copy. -/
structure WorkL (w0 : World) (v : Value) (bo B g n cg : Nat) (L : List (List Int)) (w : World) : Prop where
  two : Two w0 v w
  box : BoxT 26 w bo (.slice (some ⟨g, 0, none⟩) n cg)
  own : OwnGrid 2 34 w B (.slice (some ⟨g, 0, none⟩) n cg) L
  low : w0.heap.size + 1 < B
theorem WorkL.keep {w0 : World} {v : Value} {bo B g n cg : Nat} {L : List (List Int)} {w w' : World} (h : WorkL w0 v bo B g n cg L w) (hb : Below w.heap.size w w') : WorkL w0 v bo B g n cg L w' :=
  ⟨h.two.keep hb, h.box.keep hb, h.own.keep hb, h.low⟩
theorem WorkL.ne {w0 : World} {v : Value} {bo B g n cg : Nat} {L : List (List Int)} {w : World} (h : WorkL w0 v bo B g n cg L w) : bo ≠ g := by
  obtain ⟨cur, hcur⟩ := h.own.blkT
  intro e
  rw [← e] at hcur
  have hbb : w.heap[bo]? = _ := h.box
  rw [hcur] at hbb
  simp at hbb
theorem WorkL.at {w0 : World} {v : Value} {bo B g n cg : Nat} {L : List (List Int)} {w : World} (h : WorkL w0 v bo B g n cg L w) {i : Nat} (hi : i < L.length) :
    B ≤ g ∧ g < w.heap.size ∧ ∃ a m c, w.cell? ⟨g, i, none⟩ = some (.slice a m c) ∧ w.frozen? ⟨g, i, none⟩ = false ∧ OwnRow 2 w B (.slice a m c) (nthR L i) := by
  obtain ⟨g', cap', eg, hB, hgs, hcell⟩ := h.own.place (by omega)
  simp only [Value.slice.injEq, Option.some.injEq, Addr.mk.injEq, and_true] at eg
  obtain ⟨rfl, _, _⟩ := eg
  exact ⟨hB, hgs, hcell i hi⟩
theorem WorkL.set {w0 : World} {v : Value} {bo B g n cg : Nat} {L : List (List Int)} {w w' : World} (h : WorkL w0 v bo B g n cg L w) (hb : Below w.heap.size w w') {rv : Value} {xs : List Int} (hr : OwnRow 2 w' w.heap.size rv xs) {i : Nat} (hi : i < L.length) :
    WorkL w0 v bo B g n cg (L.set i xs) (w'.setCell ⟨g, i, none⟩ rv) := by
  obtain ⟨hB, hgs, _⟩ := h.at hi
  have hlow := h.low
  have h1 := h.keep hb
  exact ⟨⟨h1.two.arg.setOther (by simp; omega) _, h1.two.res.setOther (by simp; omega) _, h1.two.bel.setCell (by simp; omega) _⟩, h1.box.setOther h.ne _, h.own.setRow (by decide) hb hi (hr.mono (by omega)) (fun k hk => Or.inl (hr.lt k hk).1), hlow⟩

set_option maxHeartbeats 800000 in
theorem rowWithout_any (v : Value) (xs : List Int) (x : Int) (w : World) (h : RowAt w v xs) (hs : xs.length ≤ 1000000) : Calls Try.prog 94 #[v, .int .i64 x] w (GaveRow w (wo xs x)) := by
  obtain ⟨i0, hi, hz0, hz1, hz2⟩ := info_parts Try.infoI
  have HR := Lib.hid h
  obtain ⟨a, c, rfl⟩ := h.slice
  clear h
  go_enter Try.func94, Try.ntmps94
  go_wp2_with (refine wpList_make_own _ rfl (.const (.int .i64 0)) (.tmp 9) 34 rfl w.heap.size 2 i0 (.int .i64 0) 1 Try.underlying34 hi hz0 hz1 .i64 .i64 _ xs.length rfl rfl rfl ?m1 ?m2 ?m3 ?_)
  case m1 => rw [hz2]; omega
  case m2 => unfold maxLen; omega
  case m3 => exact Nat.le_refl _
  intro w2 hown hgrow
  have hb2 : Below w.heap.size w w2 := (Below.refl _ _).grown hgrow (Nat.le_refl _) (fun j hj => by cases hj)
  have HB2 := Lib.hid hb2
  have HO2 := Lib.hid hown
  have hs2 : w.heap.size ≤ w2.heap.size := hb2.size
  clear hown hgrow hb2
  go_wp2_with fail
  go_loopw [5, 13] (fun s i wr => ∃ k : Nat, k ≤ xs.length ∧ i = .int .i64 k ∧ wr.ownsRow w.heap.size 2 1 s (wo (xs.take k) x).length ((wo (xs.take k) x).map (Value.int .i64)) ∧ Below w.heap.size w wr ∧ w.heap.size ≤ wr.heap.size) (fun _ i _ => xs.length - (intOf i).toNat)
  case atStart => exact ⟨0, Nat.zero_le _, rfl, HO2.out, HB2.out, hs2⟩
  case round =>
    obtain ⟨k, hk, rfl, ho, hb, hz⟩ := hrel
    have HO := Lib.hid ho
    have HB := Lib.hid hb
    have hll : (wo (xs.take k) x).length ≤ 1000000 := by have := wo_len (xs.take k) x; rw [List.length_take] at this; omega
    clear ho
    by_cases hlt : k < xs.length
    · obtain ⟨b, o, c', e2, l1, l2, hc⟩ := HR.out.pos (by omega)
      simp only [Value.slice.injEq, true_and] at e2
      obtain ⟨rfl, rfl⟩ := e2
      have hck := cell_keep hb (hc k hlt)
      have HT := Lib.hid (wo_take x hlt)
      clear hc hb
      by_cases hne : (nth xs k != x) = true
      · have HNE := Lib.hid hne
        go_wp2_with (at_builtin; refine wpList_append_own _ rfl (.tmp 20) (.tmp 22) 34 rfl w.heap.size 2 i0 (.int .i64 0) 1 8 Try.underlying34 hi hz0 hz1 hz2 rfl (by decide) _ _ _ rfl (HO.out.alloc _) ⟨wr.heap.size, 0, none⟩ 1 1 [.int .i64 (nth xs k)] rfl rfl ?d1 ?d2 ?d3 ?d4 ?d5 ?_)
        case d1 =>
          intro j u hj
          match j, hj with
          | 0, hj => simp at hj; subst hj; simp [Addr.add]
        case d2 => intro u hu; simp at hu; subst hu; rfl
        case d3 => unfold maxLen; omega
        case d4 => omega
        case d5 => simp; omega
        intro v4 w4 hown4 hgrow4 _
        have hb4 : Below w.heap.size w w4 := (HB.out.alloc hz _).grown hgrow4 (by simp; omega) (fun j hj => (HO.out.lt j hj).1)
        have HO4 := Lib.hid hown4
        have HB4 := Lib.hid hb4
        clear hown4 hgrow4 hb4 hck hne
        go_wp2
        go_roundw
        case rel =>
          refine ⟨k + 1, by omega, by go_num, ?_, HB4.out, HB4.out.size⟩
          rw [HT.out, if_pos HNE.out]
          simpa using HO4.out
        case measure => simp [intOf]; omega
      · have hne' : (nth xs k != x) = false := by simpa using hne
        have HNE := Lib.hid hne
        clear hne
        go_wp2
        go_roundw
        case rel =>
          refine ⟨k + 1, by omega, by go_num, ?_, HB.out, hz⟩
          rw [HT.out, if_neg HNE.out, List.append_nil]
          exact HO.out
        case measure => simp [intOf]; omega
    · obtain rfl : k = xs.length := by omega
      have hro : OwnRow 2 wr w.heap.size _ (wo (xs.take xs.length) x) := OwnRow.of_ownsRow (n := (wo (xs.take xs.length) x).length) HO.out (by unfold maxLen; omega) (fun z hz => HR.out.1 z (by rw [List.take_length] at hz; exact ((wo_mem _ _ _).1 hz).1))
      rw [List.take_length] at hro
      obtain ⟨a4, c4, e4⟩ := hro.row.slice
      have HP : Hid (GaveRow w (wo xs x) (.returned (.slice a4 (wo xs x).length c4)) wr) := ⟨_, a4, c4, rfl, by rw [← e4]; exact hro, HB.out⟩
      rw [e4]
      clear hro e4 hb
      go_wp2
      go_ret
      exact HP.out

/-- Two different vertices of a graph. -/
def pairB (L : List (List Int)) (u x : Int) : Bool := decide (GraphP L) && inB u 0 ((L.length : Int) - 1) && inB x 0 ((L.length : Int) - 1) && (u != x)

set_option maxHeartbeats 800000 in
theorem l2Pair_any (v : Value) (L : List (List Int)) (u x : Int) (w : World) (h : GridAt w v L) : Calls Try.prog 102 #[.agg #[v], .int .i64 u, .int .i64 x] w fun e w' => e = .returned (.bool (pairB L u x)) ∧ Below w.heap.size w w' := by
  obtain ⟨a0, c0, rfl⟩ := h.slice
  have ha : Below w.heap.size w (w.alloc (.cells #[.slice a0 L.length c0] 26)) := (Below.refl _ _).alloc (Nat.le_refl _) _
  have hk := h.keep ha
  have HA := Lib.hid ha
  clear ha
  go_enter Try.func102, Try.ntmps102
  go_wp2_with fail
  refine (specGraphOk_any _ _ _ hk).mono ?_
  rintro e w1 ⟨rfl, hb1⟩
  have kb1 : w1.cell? ⟨w.heap.size, 0, none⟩ = some (.slice a0 L.length c0) := by rw [hb1.cell (by simp)]; go_simp
  have R1 := Lib.hid (hk.keep hb1)
  have HB1 : Hid (Below w.heap.size w w1) := HA.out.trans (hb1.mono (by simp))
  clear hb1 hk h HA
  by_cases hG : GraphP L
  · have HE : Hid (pairB L u x = (inB u 0 ((L.length : Int) - 1) && inB x 0 ((L.length : Int) - 1) && (u != x))) := by show pairB L u x = _; simp [pairB, hG]
    rw [decide_eq_true hG]
    clear hG
    go_wp2_with fail
    refine (l1There_any _ _ _ _ R1.out).mono ?_
    rintro e w2 ⟨rfl, hb2⟩
    have kb2 := cell_keep hb2 kb1
    have R2 := Lib.hid (R1.out.keep hb2)
    have HB2 : Hid (Below w.heap.size w w2) := HB1.out.trans (hb2.mono HB1.out.size)
    clear hb2 kb1 R1 HB1
    by_cases hu : inB u 0 ((L.length : Int) - 1) = true
    · have HE2 : Hid (pairB L u x = (inB x 0 ((L.length : Int) - 1) && (u != x))) := by show pairB L u x = _; rw [HE.out, hu]; simp
      rw [hu]
      clear hu HE
      go_wp2_with fail
      refine (l1There_any _ _ _ _ R2.out).mono ?_
      rintro e w3 ⟨rfl, hb3⟩
      have HB3 : Hid (Below w.heap.size w w3) := HB2.out.trans (hb3.mono HB2.out.size)
      clear hb3 kb2 R2 HB2
      by_cases hx : inB x 0 ((L.length : Int) - 1) = true
      · have HE3 : Hid (pairB L u x = (u != x)) := by show pairB L u x = _; rw [HE2.out, hx]; simp
        rw [hx]
        clear hx HE2
        go_wp2
        go_ret
        exact ⟨ret_bool HE3.out.symm, HB3.out⟩
      · have hx' : inB x 0 ((L.length : Int) - 1) = false := by simpa using hx
        have HE3 : Hid (pairB L u x = false) := by show pairB L u x = _; rw [HE2.out, hx']; simp
        rw [hx']
        clear hx hx' HE2
        go_wp2
        go_ret
        exact ⟨ret_bool HE3.out.symm, HB3.out⟩
    · have hu' : inB u 0 ((L.length : Int) - 1) = false := by simpa using hu
      have HE3 : Hid (pairB L u x = false) := by show pairB L u x = _; rw [HE.out, hu']; simp
      rw [hu']
      clear hu hu' HE
      go_wp2
      go_ret
      exact ⟨ret_bool HE3.out.symm, HB2.out⟩
  · have HE3 : Hid (pairB L u x = false) := by show pairB L u x = _; simp [pairB, hG]
    rw [decide_eq_false hG]
    clear hG
    go_wp2
    go_ret
    exact ⟨ret_bool HE3.out.symm, HB1.out⟩

end Go.Proofs.Ytikfbfclbmlopaa

/- Walks: an edge cut: the model's and the program's. -/
namespace Go.Proofs.Ytikfbfclbmlopaa
open Go.RowKit

theorem cell_set_blk {w : World} {a b : Addr} {u : Value} (v : Value) (hne : a.block ≠ b.block) (h : w.cell? b = some u) : (w.setCell a v).cell? b = some u :=
  (cell_set_other v (fun e => hne (congrArg Addr.block e))).trans h
theorem hasB_ne {L : List (List Int)} (hG : GraphP L) {u x : Int} (h0 : 0 ≤ u) (h1 : u < (L.length : Int)) (h : hasB (nthR L u.toNat) x = true) : u ≠ x := by
  intro e
  subst e
  have := (hG.2.1 u.toNat (by omega)).2
  rw [Int.toNat_of_nonneg h0, h] at this
  cases this
theorem edgeB_pair (L : List (List Int)) (u x : Int) : edgeB L u x = (pairB L u x && hasB (nthR L u.toNat) x) := by
  unfold edgeB pairB
  by_cases hG : GraphP L
  · by_cases hu : inB u 0 ((L.length : Int) - 1) = true
    · cases hh : hasB (nthR L u.toNat) x with
      | false => simp
      | true =>
        have hu' : 0 ≤ u ∧ u ≤ (L.length : Int) - 1 := by simpa [inB] using hu
        have hne := hasB_ne hG hu'.1 (by omega) hh
        have : (u != x) = true := by rw [bne_iff_ne]; exact hne
        rw [this]; simp
    · have hu' : inB u 0 ((L.length : Int) - 1) = false := by simpa using hu
      rw [hu']; simp
  · rw [decide_eq_false hG]; simp
theorem edgeB_nat {L : List (List Int)} {u x : Int} (h : edgeB L u x = true) : GraphP L ∧ ∃ p q : Nat, u = (p : Int) ∧ x = (q : Int) ∧ p < L.length ∧ q < L.length ∧ p ≠ q := by
  unfold edgeB inB at h
  simp at h
  obtain ⟨⟨⟨hG, hu⟩, hx⟩, hh⟩ := h
  have hne := hasB_ne hG hu.1 (by omega) hh
  exact ⟨hG, u.toNat, x.toNat, by omega, by omega, by omega, by omega, by omega⟩

/-- The graph without the edge. -/
def cutEL (L : List (List Int)) (u x : Int) : List (List Int) := if edgeB L u x = true then (L.set u.toNat (wo (nthR L u.toNat) x)).set x.toNat (wo (nthR L x.toNat) u) else []
theorem cutEL_no {L : List (List Int)} {u x : Int} (h : edgeB L u x = false) : cutEL L u x = [] := by rw [cutEL, h]; rfl
theorem nthR_set_ne {L : List (List Int)} {i j : Nat} (xs : List Int) (h : i ≠ j) : nthR (L.set i xs) j = nthR L j := by
  unfold nthR
  rw [List.getD_eq_getElem?_getD, List.getD_eq_getElem?_getD, List.getElem?_set_ne h]
theorem small_set {L : List (List Int)} (h : Small L) {i : Nat} {xs : List Int} (hx : xs.length ≤ 1048576) : Small (L.set i xs) := by
  refine ⟨by rw [List.length_set]; exact h.1, fun j hj => ?_⟩
  rw [List.length_set] at hj
  by_cases e : i = j
  · subst e
    unfold nthR
    rw [List.getD_eq_getElem?_getD, List.getElem?_set_self hj]
    exact hx
  · rw [nthR_set_ne xs e]; exact h.2 j hj
theorem row_small {L : List (List Int)} (hG : GraphP L) {i : Nat} (hi : i < L.length) : (nthR L i).length ≤ 16 := by rw [← row_list hG hi]; exact listM_len _
theorem cutEL_small (L : List (List Int)) (u x : Int) : Small (cutEL L u x) := by
  unfold cutEL
  split
  · rename_i h
    obtain ⟨hG, p, q, rfl, rfl, hp, hq, _⟩ := edgeB_nat h
    have h1 := wo_len (nthR L (p : Int).toNat) (q : Int)
    have h2 := wo_len (nthR L (q : Int).toNat) (p : Int)
    rw [Int.toNat_natCast] at h1 h2 ⊢
    have h3 := row_small hG hp
    have h4 := row_small hG hq
    exact small_set (small_set (graph_small hG) (by omega)) (by rw [Int.toNat_natCast]; omega)
  · exact ⟨by simp, fun i hi => absurd hi (by simp)⟩

/-- A copy laid and boxed. -/
theorem WorkL.start {w0 w w2 : World} {v : Value} {a2 : Option Addr} {n2 c2 : Nat} {L : List (List Int)} (ht : Two w0 v w) (hb : Below w.heap.size w w2) (ho : OwnGrid 2 34 w2 w.heap.size (.slice a2 n2 c2) L) (hl : 0 < L.length) :
    n2 = L.length ∧ ∃ g, a2 = some ⟨g, 0, none⟩ ∧ WorkL w0 v w2.heap.size w.heap.size g L.length c2 L (w2.alloc (.cells #[.slice (some ⟨g, 0, none⟩) L.length c2] 26)) := by
  obtain ⟨g, cap, eg, hB, hgs, _⟩ := ho.place hl
  simp only [Value.slice.injEq] at eg
  obtain ⟨rfl, rfl, rfl⟩ := eg
  have hbw : Below w2.heap.size w2 (w2.alloc (.cells #[.slice (some ⟨g, 0, none⟩) L.length c2] 26)) := (Below.refl _ _).alloc (Nat.le_refl _) _
  exact ⟨rfl, g, rfl, (ht.keep hb).keep hbw, BoxT.new _ _ _, ho.keep hbw, ht.lt⟩
theorem WorkL.done {w0 : World} {v : Value} {bo B g n cg : Nat} {L : List (List Int)} {w : World} (h : WorkL w0 v bo B g n cg L w) {ok : Bool} (hok : ok = true) : GaveGB w0 L ok (.returned (.tuple #[.agg #[.slice (some ⟨g, 0, none⟩) n cg], .bool true])) (w.setCell ⟨w0.heap.size + 1, 0, none⟩ (.slice (some ⟨g, 0, none⟩) n cg)) :=
  h.two.yes h.own h.low hok

set_option maxHeartbeats 3200000 in
set_option maxRecDepth 100000 in
theorem implCutEdge_any (v : Value) (L : List (List Int)) (u x : Int) (w : World) (h : GridAt w v L) (hu : I64 u) (hx : I64 x) : Calls Try.prog 40 #[.agg #[v], .int .i64 u, .int .i64 x] w (GaveGB w (cutEL L u x) (edgeB L u x)) := by
  obtain ⟨a0, c0, rfl⟩ := h.slice
  have T0 := Lib.hid (Two.start w (.slice a0 L.length c0))
  have HGK : Hid (∀ w', Below w.heap.size w w' → GridAt w' (.slice a0 L.length c0) L) := fun w' hb => h.keep hb
  clear h
  go_enter Try.func40, Try.ntmps40
  go_wp2_with fail
  refine (implEdgeIn_any _ L u x _ (HGK.out _ T0.out.bel) hu hx).mono ?_
  rintro e w1 ⟨rfl, hb1⟩
  have T1 := Lib.hid (T0.out.keep hb1)
  clear hb1 T0
  by_cases hE : edgeB L u x = true
  · have HI := Lib.hid hE
    obtain ⟨hG, p, q, rfl, rfl, hp, hq, hpq⟩ := edgeB_nat hE
    have hz := hG.1
    have HG := Lib.hid hG
    have kb1 := T1.out.arg.1
    rw [hE]
    clear hE hG
    go_wp2_with fail
    refine (copied_any _ L _ (HGK.out _ T1.out.bel) (graph_small HG.out)).mono ?_
    rintro e w2 ⟨n2, a2, c2, rfl, ho2, hb2⟩
    obtain ⟨rfl, g, rfl, hwk⟩ := WorkL.start T1.out hb2 ho2 (by omega)
    obtain ⟨bg, og, cg, A, C, eg, lg1, lg2, hcg⟩ := (HGK.out _ (Below.refl _ _)).pos (by omega)
    simp only [Value.slice.injEq, true_and] at eg
    obtain ⟨rfl, rfl⟩ := eg
    have hbgl : bg < w.heap.size := block_lt_of_cell (hcg p hp).1
    have HKC : Hid (∀ i, i < L.length → ∀ w', Below w.heap.size w w' → w'.cell? ⟨bg, og + i, none⟩ = some (.slice (A i) (nthR L i).length (C i)) ∧ RowAt w' (.slice (A i) (nthR L i).length (C i)) (nthR L i)) := fun i hi w' hb => ⟨cell_keep hb (hcg i hi).1, (hcg i hi).2.keep hb⟩
    have HWK := Lib.hid hwk
    have hpI : (p : Int) < (L.length : Int) := by omega
    have hqI : (q : Int) < (L.length : Int) := by omega
    have hrp := row_small HG.out hp
    have hrq := row_small HG.out hq
    clear hb2 ho2 kb1 hcg hwk
    go_wp2_with fail
    generalize hw3 : (w2.alloc (.cells #[.slice (some ⟨g, 0, none⟩) L.length c2] 26)) = w3 at HWK ⊢
    clear hw3
    have k8 := HWK.out.box.box.1
    have k3 := HWK.out.two.arg.1
    have kg := (HKC.out p hp _ HWK.out.two.bel).1
    obtain ⟨hBg, hgs, ap, mp, cp, kp, fp, -⟩ := HWK.out.at (i := p) hp
    have hlow := HWK.out.low
    have HKP := Lib.hid kp
    have HFP := Lib.hid fp
    have hne8 := HWK.out.ne
    clear kp fp
    go_region_held3 (fun wx => wx.cell? ⟨w2.heap.size, 0, none⟩ = some (.slice (some ⟨g, 0, none⟩) L.length c2) ∧ wx.cell? ⟨w.heap.size, 0, none⟩ = some (.slice (some ⟨bg, og, none⟩) L.length c0) ∧ wx.cell? ⟨bg, og + p, none⟩ = some (.slice (A p) (nthR L p).length (C p))) (first | exact ⟨k8, k3, kg⟩ | exact ⟨k8a, k3a, kga⟩ | exact ⟨cell_set_blk _ (fun e => hne8 e.symm) k8a, cell_set_blk _ (fun e => by simp at e; omega) k3a, cell_set_blk _ (fun e => by simp at e; omega) kga⟩)
      ((go_at_call 94; refine (rowWithout_any _ (nthR L p) (q : Int) _ ((HKC.out p hp _ HWK.out.two.bel).2.keep (Below.refl _ _).drew) (by omega)).mono ?_; rintro e w5 ⟨n5, a5, c5, rfl, ho5, hb5⟩; have HB5 : Hid (Below w3.heap.size w3 w5) := (Below.refl _ _).drew.trans hb5; have k8a := cell_keep HB5.out k8; have k3a := cell_keep HB5.out k3; have kga := cell_keep HB5.out kg; have kpa := cell_keep HB5.out HKP.out; have fpa : w5.frozen? ⟨g, p, none⟩ = false := (by rw [HB5.out.frozen hgs]; exact HFP.out); have HO5 : Hid (OwnRow 2 w5 w3.heap.size (.slice a5 n5 c5) (wo (nthR L p) (q : Int))) := ho5; clear ho5 hb5))
    have hw6 := HWK.out.set HB5.out HO5.out hp
    clear kpa fpa k8a k3a kga k8 k3 kg HKP HFP HO5 HB5 HWK hne8 hBg hgs
    rename_i hHeld
    clear hHeld
    generalize (w5.setCell ⟨g, p, none⟩ (.slice a5 n5 c5)) = w6 at hw6 ⊢
    have hq' : q < (L.set p (wo (nthR L p) (q : Int))).length := by rw [List.length_set]; exact hq
    have HWK := Lib.hid hw6
    have k8 := HWK.out.box.box.1
    have k3 := HWK.out.two.arg.1
    have kg := (HKC.out q hq _ HWK.out.two.bel).1
    obtain ⟨hBg, hgs, ap, mp, cp, kp, fp, -⟩ := HWK.out.at (i := q) hq'
    have HKP := Lib.hid kp
    have HFP := Lib.hid fp
    have hne8 := HWK.out.ne
    clear kp fp hw6
    go_wp2_with fail
    go_region_held3 (fun wx => wx.cell? ⟨w2.heap.size, 0, none⟩ = some (.slice (some ⟨g, 0, none⟩) L.length c2) ∧ wx.cell? ⟨w.heap.size, 0, none⟩ = some (.slice (some ⟨bg, og, none⟩) L.length c0) ∧ wx.cell? ⟨bg, og + q, none⟩ = some (.slice (A q) (nthR L q).length (C q))) (first | exact ⟨k8, k3, kg⟩ | exact ⟨k8a, k3a, kga⟩ | exact ⟨cell_set_blk _ (fun e => hne8 e.symm) k8a, cell_set_blk _ (fun e => by simp at e; omega) k3a, cell_set_blk _ (fun e => by simp at e; omega) kga⟩)
      ((go_at_call 94; refine (rowWithout_any _ (nthR L q) (p : Int) _ ((HKC.out q hq _ HWK.out.two.bel).2.keep (Below.refl _ _).drew) (by omega)).mono ?_; rintro e w7 ⟨n7, a7, c7, rfl, ho7, hb7⟩; have HB7 : Hid (Below w6.heap.size w6 w7) := (Below.refl _ _).drew.trans hb7; have k8a := cell_keep HB7.out k8; have k3a := cell_keep HB7.out k3; have kga := cell_keep HB7.out kg; have kpa := cell_keep HB7.out HKP.out; have fpa : w7.frozen? ⟨g, q, none⟩ = false := (by rw [HB7.out.frozen hgs]; exact HFP.out); have HO7 : Hid (OwnRow 2 w7 w6.heap.size (.slice a7 n7 c7) (wo (nthR L q) (p : Int))) := ho7; clear ho7 hb7))
    have hw8 := HWK.out.set HB7.out HO7.out hq'
    clear kpa fpa k8a k3a kga k8 k3 kg HKP HFP HO7 HB7 HWK hne8 hBg hgs
    rename_i hHeld
    clear hHeld
    generalize (w7.setCell ⟨g, q, none⟩ (.slice a7 n7 c7)) = w8 at hw8 ⊢
    have HW8 := Lib.hid hw8
    have k8 := HW8.out.box.box.1
    have kr := HW8.out.two.res.1
    have kf := HW8.out.two.res.2
    have HEL : Hid (cutEL L (p : Int) (q : Int) = (L.set p (wo (nthR L p) (q : Int))).set q (wo (nthR L q) (p : Int))) := by show _ = _; rw [cutEL, if_pos HI.out, Int.toNat_natCast, Int.toNat_natCast]
    clear hw8
    go_wp2
    refine bodyPost_ret (v := .tuple #[.agg #[.slice (some ⟨g, 0, none⟩) L.length c2], .bool true]) (by simp [results, Try.results40, go_sem, HW8.out.two.q0]) rfl ?_
    rw [HEL.out]
    exact HW8.out.done HI.out
  · have hE' : edgeB L u x = false := by simpa using hE
    have HI := Lib.hid hE'
    have kr := T1.out.res.1
    have kf := T1.out.res.2
    rw [hE']
    clear hE hE'
    go_wp2
    exact bodyPost_ret (v := .tuple #[.agg #[.slice none 0 0], .bool false]) (by simp [results, Try.results40, go_sem, T1.out.q0]) rfl (T1.out.no (cutEL_no HI.out) HI.out)

set_option maxHeartbeats 3200000 in
set_option maxRecDepth 100000 in
theorem specCutEdge_any (v : Value) (L : List (List Int)) (u x : Int) (w : World) (h : GridAt w v L) (hu : I64 u) (hx : I64 x) : Calls Try.prog 52 #[.agg #[v], .int .i64 u, .int .i64 x] w (GaveGB w (cutEL L u x) (edgeB L u x)) := by
  obtain ⟨a0, c0, rfl⟩ := h.slice
  have T0 := Lib.hid (Two.start w (.slice a0 L.length c0))
  have HGK : Hid (∀ w', Below w.heap.size w w' → GridAt w' (.slice a0 L.length c0) L) := fun w' hb => h.keep hb
  have HEP := Lib.hid (edgeB_pair L u x)
  clear h
  go_enter Try.func52, Try.ntmps52
  go_wp2_with fail
  refine (l2Pair_any _ L u x _ (HGK.out _ T0.out.bel)).mono ?_
  rintro e w1 ⟨rfl, hb1⟩
  have T1 := Lib.hid (T0.out.keep hb1)
  clear hb1 T0
  by_cases hP : pairB L u x = true
  · have hP' := hP
    unfold pairB inB at hP'
    simp at hP'
    obtain ⟨⟨⟨hG, hu'⟩, hx'⟩, hne⟩ := hP'
    have HG := Lib.hid hG
    have hz := hG.1
    have HPP := Lib.hid hP
    have kb1 := T1.out.arg.1
    rw [hP]
    clear hP hG hne
    go_wp2_with fail
    refine (l1Edge_any _ L u x _ (HGK.out _ T1.out.bel) hu'.1 (by omega)).mono ?_
    rintro e w2 ⟨rfl, hb2⟩
    have T2 := Lib.hid (T1.out.keep hb2)
    clear hb2 kb1 T1
    by_cases hH : hasB (nthR L u.toNat) x = true
    · have HI : Hid (edgeB L u x = true) := by show edgeB L u x = true; rw [HEP.out, HPP.out, hH]; rfl
      obtain ⟨-, p, q, rfl, rfl, hp, hq, hpq⟩ := edgeB_nat HI.out
      have kb2 := T2.out.arg.1
      rw [hH]
      clear hH
      go_wp2_with fail
      refine (l1CopyGraph_any _ L _ (HGK.out _ T2.out.bel) (graph_small HG.out)).mono ?_
      rintro e w3 ⟨n2, a2, c2, rfl, ho2, hb2⟩
      obtain ⟨rfl, g, rfl, hwk⟩ := WorkL.start T2.out hb2 ho2 (by omega)
      have HWK := Lib.hid hwk
      have hpI : (p : Int) < (L.length : Int) := by omega
      have hqI : (q : Int) < (L.length : Int) := by omega
      have hrp := row_small HG.out hp
      have hrq := row_small HG.out hq
      clear hb2 ho2 kb2 hwk
      go_wp2_with fail
      generalize hw4 : (w3.alloc (.cells #[.slice (some ⟨g, 0, none⟩) L.length c2] 26)) = w4 at HWK ⊢
      clear hw4
      have k8 := HWK.out.box.box.1
      obtain ⟨hBg, hgs, ap, mp, cp, kp, fp, hop⟩ := HWK.out.at (i := p) hp
      have HOP := Lib.hid hop
      have HFP := Lib.hid fp
      have hq' : q < (L.set p (wo (nthR L p) (q : Int))).length := by rw [List.length_set]; exact hq
      have HNQ : Hid (nthR (L.set p (wo (nthR L p) (q : Int))) q = nthR L q) := nthR_set_ne _ hpq
      clear fp hop
      go_region_law (first | (go_simp; go_at_call 109; refine (l2Without_any _ (nthR L p) (q : Int) _ (HOP.out.row.keep (Below.refl _ _).drew) (by omega)).mono ?_; rintro e w5 ⟨n5, a5, c5, rfl, ho5, hb5⟩; have HB5 : Hid (Below w4.heap.size w4 w5) := (Below.refl _ _).drew.trans hb5; have k8a := cell_keep HB5.out k8; have kpa := cell_keep HB5.out kp; have fpa : w5.frozen? ⟨g, p, none⟩ = false := (by rw [HB5.out.frozen hgs]; exact HFP.out); have HO5 : Hid (OwnRow 2 w5 w4.heap.size (.slice a5 n5 c5) (wo (nthR L p) (q : Int))) := ho5; clear ho5 hb5))
      all_goals (
        have hw6 := HWK.out.set HB5.out HO5.out hp
        clear kpa fpa k8a k8 kp HFP HOP HO5 HB5 HWK hBg hgs
        generalize (w5.setCell ⟨g, p, none⟩ (.slice a5 n5 c5)) = w6 at hw6 ⊢
        have HWK := Lib.hid hw6
        have k8 := HWK.out.box.box.1
        obtain ⟨hBg, hgs, aq, mq, cq, kq, fq, hoq⟩ := HWK.out.at (i := q) hq'
        rw [HNQ.out] at hoq
        have HOQ := Lib.hid hoq
        have HFQ := Lib.hid fq
        clear fq hoq hw6
        go_wp2_with fail
        go_region_law (first | (go_simp; go_at_call 109; refine (l2Without_any _ (nthR L q) (p : Int) _ (HOQ.out.row.keep (Below.refl _ _).drew) (by omega)).mono ?_; rintro e w7 ⟨n7, a7, c7, rfl, ho7, hb7⟩; have HB7 : Hid (Below w6.heap.size w6 w7) := (Below.refl _ _).drew.trans hb7; have k8a := cell_keep HB7.out k8; have kqa := cell_keep HB7.out kq; have fqa : w7.frozen? ⟨g, q, none⟩ = false := (by rw [HB7.out.frozen hgs]; exact HFQ.out); have HO7 : Hid (OwnRow 2 w7 w6.heap.size (.slice a7 n7 c7) (wo (nthR L q) (p : Int))) := ho7; clear ho7 hb7))
        all_goals (
          have hw8 := HWK.out.set HB7.out HO7.out hq'
          clear kqa fqa k8a k8 kq HFQ HOQ HO7 HB7 HWK hBg hgs
          generalize (w7.setCell ⟨g, q, none⟩ (.slice a7 n7 c7)) = w8 at hw8 ⊢
          have HW8 := Lib.hid hw8
          have k8 := HW8.out.box.box.1
          have kr := HW8.out.two.res.1
          have kf := HW8.out.two.res.2
          have HEL : Hid (cutEL L (p : Int) (q : Int) = (L.set p (wo (nthR L p) (q : Int))).set q (wo (nthR L q) (p : Int))) := by show _ = _; rw [cutEL, if_pos HI.out, Int.toNat_natCast, Int.toNat_natCast]
          clear hw8
          go_wp2
          refine bodyPost_ret (v := .tuple #[.agg #[.slice (some ⟨g, 0, none⟩) L.length c2], .bool true]) (by simp [results, Try.results52, go_sem, HW8.out.two.q0]) rfl ?_
          rw [HEL.out]
          exact HW8.out.done HI.out))
    · have hH' : hasB (nthR L u.toNat) x = false := by simpa using hH
      have HI : Hid (edgeB L u x = false) := by show edgeB L u x = false; rw [HEP.out, hH', Bool.and_false]
      have kr := T2.out.res.1
      have kf := T2.out.res.2
      rw [hH']
      clear hH hH'
      go_wp2
      exact bodyPost_ret (v := .tuple #[.agg #[.slice none 0 0], .bool false]) (by simp [results, Try.results52, go_sem, T2.out.q0]) rfl (T2.out.no (cutEL_no HI.out) HI.out)
  · have hP' : pairB L u x = false := by simpa using hP
    have HI : Hid (edgeB L u x = false) := by show edgeB L u x = false; rw [HEP.out, hP', Bool.false_and]
    have kr := T1.out.res.1
    have kf := T1.out.res.2
    rw [hP']
    clear hP hP'
    go_wp2
    exact bodyPost_ret (v := .tuple #[.agg #[.slice none 0 0], .bool false]) (by simp [results, Try.results52, go_sem, T1.out.q0]) rfl (T1.out.no (cutEL_no HI.out) HI.out)

end Go.Proofs.Ytikfbfclbmlopaa

/- Walks: slices.BinarySearch over a rising row. -/
namespace Go.Proofs.Ytikfbfclbmlopaa
open Go.RowKit

theorem isNaNc_any (x : Int) (w : World) : Calls Try.prog 156 #[.int .i64 x] w fun e w' => e = .returned (.bool false) ∧ w = w' := by
  have hx : (x != x) = false := by simp
  go_enter Try.func156, Try.ntmps156
  go_wp2
  go_ret
  exact ⟨rfl, rfl⟩
theorem isNaNs_any (x : Int) (w : World) : Calls Try.prog 149 #[.int .i64 x] w fun e w' => e = .returned (.bool false) ∧ w = w' := by
  have hx : (x != x) = false := by simp
  go_enter Try.func149, Try.ntmps149
  go_wp2
  go_ret
  exact ⟨rfl, rfl⟩
theorem less_any (x y : Int) (w : World) : Calls Try.prog 144 #[.int .i64 x, .int .i64 y] w fun e w' => e = .returned (.bool (decide (x < y))) ∧ w = w' := by
  go_enter Try.func144, Try.ntmps144
  go_wp2_with fail
  refine (isNaNc_any _ _).mono ?_
  rintro e w' ⟨rfl, rfl⟩
  go_wp2
  go_ret
  exact ⟨rfl, rfl⟩

/-- The place of x in a rising row: what is before it is less, what is from it on is not; and a bool. -/
def BsPost (w : World) (xs : List Int) (x : Int) (e : Ending) (w' : World) : Prop :=
  ∃ (k : Nat) (b : Bool), k ≤ xs.length ∧ (∀ j, j < k → nth xs j < x) ∧ (∀ j, k ≤ j → j < xs.length → x ≤ nth xs j) ∧ e = .returned (.tuple #[.int .i64 k, .bool b]) ∧ w = w'

set_option maxHeartbeats 1600000 in
set_option maxRecDepth 100000 in
theorem binarySearch_any (v : Value) (xs : List Int) (x : Int) (w : World) (h : RowAt w v xs) (hs : xs.length ≤ 1000000) (hm : ∀ i j, i < j → j < xs.length → nth xs i < nth xs j) : Calls Try.prog 129 #[v, .int .i64 x] w (BsPost w xs x) := by
  have HR := Lib.hid h
  have HM := Lib.hid hm
  obtain ⟨a, c, rfl⟩ := h.slice
  clear h hm
  go_enter Try.func129, Try.ntmps129
  go_wp2_with fail
  go_loop [7, 8] (fun s t => ∃ i j : Nat, i ≤ j ∧ j ≤ xs.length ∧ s = .int .i64 i ∧ t = .int .i64 j ∧ (∀ q, q < i → nth xs q < x) ∧ (∀ q, j ≤ q → q < xs.length → x ≤ nth xs q)) (fun s t => (intOf t - intOf s).toNat)
  case atStart => exact ⟨0, xs.length, Nat.zero_le _, Nat.le_refl _, rfl, rfl, (fun q hq => absurd hq (by omega)), (fun q h1 h2 => absurd h2 (by omega))⟩
  case round =>
    obtain ⟨i, j, hij, hj, rfl, rfl, hlo, hhi⟩ := hrel
    have HLO := Lib.hid hlo
    have HHI := Lib.hid hhi
    clear hlo hhi
    by_cases hlt : i < j
    · obtain ⟨b, o, c', e2, l1, l2, hc⟩ := HR.out.pos (by omega)
      simp only [Value.slice.injEq, true_and] at e2
      obtain ⟨rfl, rfl⟩ := e2
      have hck := hc ((i + j) / 2) (by omega)
      clear hc
      go_wp2_with fail
      refine (less_any _ _ _).mono ?_
      rintro e w' ⟨rfl, rfl⟩
      have hh : ((i : Int) + (j : Int)) / 2 = (((i + j) / 2 : Nat) : Int) := by omega
      have HH := Lib.hid hh
      have hml : (i + j) / 2 < xs.length := by omega
      clear hh hck
      by_cases hd : nth xs ((i + j) / 2) < x
      · rw [decide_eq_true hd]
        have HD := Lib.hid hd
        clear hd
        go_wp2
        go_round
        case rel =>
          refine ⟨(i + j) / 2 + 1, j, by omega, hj, by rw [HH.out]; rfl, rfl, fun q hq => ?_, HHI.out⟩
          by_cases e : q = (i + j) / 2
          · rw [e]; exact HD.out
          · have := HM.out q ((i + j) / 2) (by omega) hml
            have := HD.out
            omega
        case measure => simp [intOf]; omega
      · rw [decide_eq_false hd]
        have HD := Lib.hid hd
        clear hd
        go_wp2
        go_round
        case rel =>
          refine ⟨i, (i + j) / 2, by omega, by omega, rfl, by rw [HH.out], HLO.out, fun q hq hql => ?_⟩
          by_cases e : q = (i + j) / 2
          · rw [e]; have := HD.out; omega
          · have := HM.out ((i + j) / 2) q (by omega) hql
            have := HD.out
            omega
        case measure => simp [intOf]; omega
    · obtain rfl : i = j := by omega
      by_cases hil : i < xs.length
      · obtain ⟨b, o, c', e2, l1, l2, hc⟩ := HR.out.pos (by omega)
        simp only [Value.slice.injEq, true_and] at e2
        obtain ⟨rfl, rfl⟩ := e2
        have hck := hc i hil
        have hilI : (i : Int) < (xs.length : Int) := by omega
        clear hc
        by_cases he : (nth xs i == x) = true
        · go_wp2
          go_ret2
          exact ⟨i, _, hj, HLO.out, HHI.out, rfl, rfl⟩
        · have he' : (nth xs i == x) = false := by simpa using he
          clear he
          go_wp2_with fail
          refine (isNaNs_any _ _).mono ?_
          rintro e w' ⟨rfl, rfl⟩
          go_wp2
          go_ret2
          exact ⟨i, _, hj, HLO.out, HHI.out, rfl, rfl⟩
      · go_wp2
        go_ret2
        exact ⟨i, _, hj, HLO.out, HHI.out, rfl, rfl⟩

end Go.Proofs.Ytikfbfclbmlopaa

/- Walks: a number put into a rising row by the program. -/
namespace Go.Proofs.Ytikfbfclbmlopaa
open Go.RowKit

/-- Where x stands in a rising row, and the row with it. -/
def WithPost (w : World) (xs : List Int) (x : Int) (e : Ending) (w' : World) : Prop :=
  ∃ k, k ≤ xs.length ∧ (∀ j, j < k → nth xs j < x) ∧ (∀ j, k ≤ j → j < xs.length → x ≤ nth xs j) ∧ GaveRow w (xs.take k ++ x :: xs.drop k) e w'

set_option maxHeartbeats 3200000 in
set_option maxRecDepth 100000 in
theorem rowWith_any (v : Value) (xs : List Int) (x : Int) (w : World) (h : RowAt w v xs) (hx : I64 x) (hs : xs.length ≤ 1000000) (hm : ∀ i j, i < j → j < xs.length → nth xs i < nth xs j) : Calls Try.prog 93 #[v, .int .i64 x] w (WithPost w xs x) := by
  obtain ⟨i0, hi, hz0, hz1, hz2⟩ := info_parts Try.infoI
  have HX := Lib.hid hx
  have HR := Lib.hid h
  have HM := Lib.hid hm
  clear hm hx
  by_cases h0 : xs.length = 0
  · have he : xs = [] := List.length_eq_zero_iff.1 h0
    have HE := Lib.hid he
    rcases h.none_or h0 with rfl | ⟨ad, c, rfl⟩
    · clear h h0 he
      go_enter Try.func93, Try.ntmps93
      go_wp2_with fail
      refine (binarySearch_any _ xs x _ HR.out hs HM.out).mono ?_
      rintro e w' ⟨k, bb, hk, hlo, hhi, rfl, rfl⟩
      obtain rfl : k = 0 := by have := HE.out; subst this; simpa using hk
      clear hlo hhi hk
      go_wp2_with (at_builtin; refine wpList_append_grows _ rfl (.tmp 17) (.tmp 19) 34 rfl 2 i0 (.int .i64 0) 1 8 Try.underlying34 hi hz0 hz1 hz2 rfl (by decide) none 0 0 [] rfl (fun _ => ⟨rfl, rfl⟩) ?d0 ?d6 ⟨w.heap.size, 0, none⟩ 1 1 [.int .i64 x] rfl rfl ?d1 ?d2 ?d3 ?d4 ?d5 ?_)
      case d0 => simp
      case d6 => intro b hb; cases hb
      case d1 =>
        intro j u hj
        match j, hj with
        | 0, hj => simp at hj; subst hj; simp [Addr.add]
      case d2 => intro u hu; simp at hu; subst hu; rfl
      case d3 => omega
      case d4 => unfold maxLen; omega
      case d5 => omega
      intro v2 w2 hown2 hgrow2
      have hb2 : Below w.heap.size w w2 := ((Below.refl _ _).alloc (Nat.le_refl _) _).grown hgrow2 (by simp) (fun j hj => by cases hj)
      have HB2 := Lib.hid hb2
      have HO2 := Lib.hid hown2
      have hzw : w.heap.size + 1 ≤ w2.heap.size := by have := hgrow2.size; rw [size_alloc1] at this; exact this
      clear hown2 hgrow2 hb2
      go_wp2_with (at_builtin; refine wpList_append_own_none rfl (.tmp 21) (.tmp 24) 34 rfl (w.heap.size + 1) 2 i0 1 Try.underlying34 hi _ _ _ rfl HO2.out rfl ?_)
      have hro : OwnRow 2 w2 (w.heap.size + 1) _ [x] := OwnRow.of_ownsRow (n := 0 + 1) (by simpa using HO2.out) (by unfold maxLen; simp) (by intro z hz; simp at hz; subst hz; exact HX.out)
      obtain ⟨a4, c4, e4⟩ := hro.row.slice
      have HP : Hid (WithPost w xs x (.returned (.slice a4 [x].length c4)) w2) := by
        refine ⟨0, Nat.zero_le _, fun j hj => absurd hj (by omega), fun j _ hj => absurd hj (by rw [HE.out]; simp), _, a4, c4, rfl, ?_, HB2.out⟩
        rw [← e4, HE.out]
        exact hro.mono (by omega)
      rw [e4]
      clear hro e4
      go_ret
      exact HP.out
    · clear h h0 he
      go_enter Try.func93, Try.ntmps93
      go_wp2_with fail
      refine (binarySearch_any _ xs x _ HR.out hs HM.out).mono ?_
      rintro e w' ⟨k, bb, hk, hlo, hhi, rfl, rfl⟩
      obtain rfl : k = 0 := by have := HE.out; subst this; simpa using hk
      clear hlo hhi hk
      go_wp2_with (at_builtin; refine wpList_append_grows _ rfl (.tmp 17) (.tmp 19) 34 rfl 2 i0 (.int .i64 0) 1 8 Try.underlying34 hi hz0 hz1 hz2 rfl (by decide) (some ad) 0 0 [] rfl (fun h => by cases h) ?d0 ?d6 ⟨w.heap.size, 0, none⟩ 1 1 [.int .i64 x] rfl rfl ?d1 ?d2 ?d3 ?d4 ?d5 ?_)
      case d0 => simp
      case d6 => intro b hb j u hj; simp at hj
      case d1 =>
        intro j u hj
        match j, hj with
        | 0, hj => simp at hj; subst hj; simp [Addr.add]
      case d2 => intro u hu; simp at hu; subst hu; rfl
      case d3 => omega
      case d4 => unfold maxLen; omega
      case d5 => omega
      intro v2 w2 hown2 hgrow2
      have hb2 : Below w.heap.size w w2 := ((Below.refl _ _).alloc (Nat.le_refl _) _).grown hgrow2 (by simp) (fun j hj => by cases hj)
      have HB2 := Lib.hid hb2
      have HO2 := Lib.hid hown2
      have hzw : w.heap.size + 1 ≤ w2.heap.size := by have := hgrow2.size; rw [size_alloc1] at this; exact this
      clear hown2 hgrow2 hb2
      go_wp2_with (at_builtin; refine wpList_append_own _ rfl (.tmp 21) (.tmp 24) 34 rfl (w.heap.size + 1) 2 i0 (.int .i64 0) 1 8 Try.underlying34 hi hz0 hz1 hz2 rfl (by decide) _ _ _ rfl HO2.out ad (0) (c) [] rfl (by simp) ?e1 ?e2 ?e3 ?e4 ?e5 ?_)
      case e1 => intro j u hj; simp at hj
      case e2 => intro u hu; simp at hu
      case e3 => unfold maxLen; omega
      case e4 => omega
      case e5 => exact hzw
      intro v3 w3 hown3 hgrow3 _
      have hb3 : Below w.heap.size w w3 := HB2.out.grown hgrow3 (by omega) (fun j hj => by have := (HO2.out.lt j hj).1; omega)
      have hro : OwnRow 2 w3 (w.heap.size + 1) v3 [x] := OwnRow.of_ownsRow (n := 0 + 1 + 0) (by simpa using hown3) (by unfold maxLen; simp) (by intro z hz; simp at hz; subst hz; exact HX.out)
      obtain ⟨a4, c4, e4⟩ := hro.row.slice
      have HP : Hid (WithPost w xs x (.returned v3) w3) := by
        refine ⟨0, Nat.zero_le _, fun j hj => absurd hj (by omega), fun j _ hj => absurd hj (by rw [HE.out]; simp), _, a4, c4, by rw [e4], ?_, hb3⟩
        rw [← e4, HE.out]
        exact hro.mono (by omega)
      clear hro e4 hown3 hgrow3 hb3
      go_wp2
      go_ret
      exact HP.out
  · obtain ⟨b, o, c, rfl, l1, l2, hc⟩ := h.pos (by omega)
    have HC := Lib.hid hc
    unfold maxLen at l2
    clear h hc
    go_enter Try.func93, Try.ntmps93
    go_wp2_with fail
    refine (binarySearch_any _ xs x _ HR.out hs HM.out).mono ?_
    rintro e w' ⟨k, bb, hk, hlo, hhi, rfl, rfl⟩
    have HLO := Lib.hid hlo
    have HHI := Lib.hid hhi
    have HTL : Hid ((xs.take k).length = k) := by show _ = _; rw [List.length_take]; omega
    have HDL : Hid ((xs.drop k).length = xs.length - k) := by show _ = _; rw [List.length_drop]
    have hkc : (k : Int) ≤ (c : Int) := by omega
    have hkl : (k : Int) ≤ (xs.length : Int) := by omega
    have HTC : Hid (∀ b', (some ⟨b, o, none⟩ : Option Addr) = some b' → ∀ j u, ((xs.take k).map (Value.int .i64))[j]? = some u → (w.alloc (.cells #[.int .i64 x] 2)).cell? (b'.add j) = some u) := by
      intro b' hb' j u hj
      cases hb'
      exact row_news (fun i hi => cell_keep ((Below.refl _ _).alloc (Nat.le_refl _) _) (by
        rw [HTL.out] at hi
        rw [nth_take hi]
        exact HC.out i (by omega))) j u hj
    clear hlo hhi
    by_cases hkc2 : k < c
    · have hne : ((k : Int) == (c : Int)) = false := by rw [beq_eq_false_iff_ne]; omega
      go_wp2_with (at_builtin; refine wpList_append_grows _ rfl (.tmp 17) (.tmp 19) 34 rfl 2 i0 (.int .i64 0) 1 8 Try.underlying34 hi hz0 hz1 hz2 rfl (by decide) (some ⟨b, o, none⟩) k k ((xs.take k).map (Value.int .i64)) rfl (fun h => by cases h) ?d0 ?d6 ⟨w.heap.size, 0, none⟩ 1 1 [.int .i64 x] rfl rfl ?d1 ?d2 ?d3 ?d4 ?d5 ?_)
      case d0 => rw [List.length_map, HTL.out, Nat.mul_one]
      case d6 => exact HTC.out
      case d1 =>
        intro j u hj
        match j, hj with
        | 0, hj => simp at hj; subst hj; simp [Addr.add]
      case d2 => intro u hu; simp at hu; subst hu; rfl
      case d3 => omega
      case d4 => unfold maxLen; omega
      case d5 => omega
      intro v2 w2 hown2 hgrow2
      have hb2 : Below w.heap.size w w2 := ((Below.refl _ _).alloc (Nat.le_refl _) _).grown hgrow2 (by simp) (fun j hj => by cases hj)
      have HB2 := Lib.hid hb2
      have HO2 := Lib.hid hown2
      have hzw : w.heap.size + 1 ≤ w2.heap.size := by have := hgrow2.size; rw [size_alloc1] at this; exact this
      clear hown2 hgrow2 hb2
      go_wp2_with (at_builtin; refine wpList_append_own _ rfl (.tmp 21) (.tmp 24) 34 rfl (w.heap.size + 1) 2 i0 (.int .i64 0) 1 8 Try.underlying34 hi hz0 hz1 hz2 rfl (by decide) _ _ _ rfl HO2.out ⟨b, o + k, none⟩ (xs.length - k) (c - k) ((xs.drop k).map (Value.int .i64)) rfl (by simp) ?e1 ?e2 ?e3 ?e4 ?e5 ?_)
      case e1 => exact row_news (drop_cells HB2.out HC.out k)
      case e2 => exact ints_one _
      case e3 => unfold maxLen; omega
      case e4 => omega
      case e5 => exact hzw
      intro v3 w3 hown3 hgrow3 _
      have hb3 : Below w.heap.size w w3 := HB2.out.grown hgrow3 (by omega) (fun j hj => by have := (HO2.out.lt j hj).1; omega)
      have hro : OwnRow 2 w3 (w.heap.size + 1) v3 (xs.take k ++ x :: xs.drop k) := by
        refine OwnRow.of_ownsRow (n := k + 1 + (xs.length - k)) (by simpa using hown3) (by simp; unfold maxLen; omega) ?_
        intro z hz
        simp only [List.mem_append, List.mem_cons] at hz
        rcases hz with hz | rfl | hz
        · exact HR.out.1 z (by first | exact List.mem_of_mem_take hz | (simp at hz))
        · exact HX.out
        · exact HR.out.1 z (by first | exact List.mem_of_mem_drop hz | (simp at hz))
      obtain ⟨a4, c4, e4⟩ := hro.row.slice
      have HP : Hid (WithPost w xs x (.returned v3) w3) := ⟨k, hk, HLO.out, HHI.out, _, a4, c4, by rw [e4], by rw [← e4]; exact hro.mono (by omega), hb3⟩
      clear hro e4 hown3 hgrow3 hb3
      go_wp2
      go_ret
      exact HP.out
    · obtain hce : c = xs.length := by omega
      subst hce
      obtain hke : k = xs.length := by omega
      subst hke
      go_wp2_with (at_builtin; refine wpList_append_grows _ rfl (.tmp 17) (.tmp 19) 34 rfl 2 i0 (.int .i64 0) 1 8 Try.underlying34 hi hz0 hz1 hz2 rfl (by decide) (some ⟨b, o, none⟩) xs.length xs.length ((xs.take xs.length).map (Value.int .i64)) rfl (fun h => by cases h) ?d0 ?d6 ⟨w.heap.size, 0, none⟩ 1 1 [.int .i64 x] rfl rfl ?d1 ?d2 ?d3 ?d4 ?d5 ?_)
      case d0 => rw [List.length_map, HTL.out, Nat.mul_one]
      case d6 => exact HTC.out
      case d1 =>
        intro j u hj
        match j, hj with
        | 0, hj => simp at hj; subst hj; simp [Addr.add]
      case d2 => intro u hu; simp at hu; subst hu; rfl
      case d3 => omega
      case d4 => unfold maxLen; omega
      case d5 => omega
      intro v2 w2 hown2 hgrow2
      have hb2 : Below w.heap.size w w2 := ((Below.refl _ _).alloc (Nat.le_refl _) _).grown hgrow2 (by simp) (fun j hj => by cases hj)
      have HB2 := Lib.hid hb2
      have HO2 := Lib.hid hown2
      have hzw : w.heap.size + 1 ≤ w2.heap.size := by have := hgrow2.size; rw [size_alloc1] at this; exact this
      clear hown2 hgrow2 hb2
      go_wp2_with (at_builtin; refine wpList_append_own _ rfl (.tmp 21) (.tmp 24) 34 rfl (w.heap.size + 1) 2 i0 (.int .i64 0) 1 8 Try.underlying34 hi hz0 hz1 hz2 rfl (by decide) _ _ _ rfl HO2.out ⟨b, o, none⟩ (0) (0) [] rfl (by simp) ?e1 ?e2 ?e3 ?e4 ?e5 ?_)
      case e1 => intro j u hj; simp at hj
      case e2 => intro u hu; simp at hu
      case e3 => unfold maxLen; omega
      case e4 => omega
      case e5 => exact hzw
      intro v3 w3 hown3 hgrow3 _
      have hb3 : Below w.heap.size w w3 := HB2.out.grown hgrow3 (by omega) (fun j hj => by have := (HO2.out.lt j hj).1; omega)
      have hro : OwnRow 2 w3 (w.heap.size + 1) v3 (xs.take xs.length ++ x :: []) := by
        refine OwnRow.of_ownsRow (n := xs.length + 1 + 0) (by simpa using hown3) (by simp; unfold maxLen; omega) ?_
        intro z hz
        simp only [List.mem_append, List.mem_cons] at hz
        rcases hz with hz | rfl | hz
        · exact HR.out.1 z (by first | exact List.mem_of_mem_take hz | (simp at hz))
        · exact HX.out
        · exact HR.out.1 z (by first | exact List.mem_of_mem_drop hz | (simp at hz))
      obtain ⟨a4, c4, e4⟩ := hro.row.slice
      have HP : Hid (WithPost w xs x (.returned v3) w3) := ⟨xs.length, hk, HLO.out, HHI.out, _, a4, c4, by rw [e4], by rw [← e4, List.drop_length]; exact hro.mono (by omega), hb3⟩
      clear hro e4 hown3 hgrow3 hb3
      go_wp2
      go_ret
      exact HP.out

end Go.Proofs.Ytikfbfclbmlopaa
