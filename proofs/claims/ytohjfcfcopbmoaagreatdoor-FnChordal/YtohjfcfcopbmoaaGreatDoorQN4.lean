/- The texts N4, N5, N8, N9, P1, joined. -/
import Derived.Test.YtohjfcfcopbmoaaGreatDoorQM9
import Derived.StillTailTactics
import Derived.Test.YtohjfcfcopbmoaaGreatDoorQM1
import Derived.Laws.CopyOwn
import Derived.Deep.DeepCutAuto
import Derived.ArgAppend
import Derived.Deep.AppendLies

/- Walks: an edge cut. -/
namespace Go.Proofs.YtohjfcfcopbmoaaGreatDoor
open Go.RowKit

/-- The boxes of a function at work on a copy: its graph's, its result's, that of the copy, and the copy. -/
structure WorkL (w0 : World) (v : Value) (bo B g n cg : Nat) (L : List (List Int)) (w : World) : Prop where
  two : Two w0 v w
  box : BoxT 26 w bo (.slice (some ⟨g, 0, none⟩) n cg)
  own : OwnGrid 2 33 w B (.slice (some ⟨g, 0, none⟩) n cg) L
  low : w0.heap.size + 1 < B
theorem WorkL.keep {w0 : World} {v : Value} {bo B g n cg : Nat} {L : List (List Int)} {w w' : World} (h : WorkL w0 v bo B g n cg L w) (hb : Below w.heap.size w w') : WorkL w0 v bo B g n cg L w' :=
  ⟨h.two.keep hb, h.box.keep hb, h.own.keep hb, h.low⟩
theorem WorkL.ne {w0 : World} {v : Value} {bo B g n cg : Nat} {L : List (List Int)} {w : World} (h : WorkL w0 v bo B g n cg L w) : bo ≠ g := by
  obtain ⟨cur, hcur⟩ := h.own.blkT
  intro e
  rw [← e] at hcur
  have hbb : w.heap[bo]? = _ := h.box
  rw [hcur] at hbb
  simp at hbb
theorem WorkL.at {w0 : World} {v : Value} {bo B g n cg : Nat} {L : List (List Int)} {w : World} (h : WorkL w0 v bo B g n cg L w) {i : Nat} (hi : i < L.length) :
    B ≤ g ∧ g < w.heap.size ∧ ∃ a m c, w.cell? ⟨g, i, none⟩ = some (.slice a m c) ∧ w.frozen? ⟨g, i, none⟩ = false ∧ OwnRow 2 w B (.slice a m c) (nthR L i) := by
  obtain ⟨g', cap', eg, hB, hgs, hcell⟩ := h.own.place (by omega)
  simp only [Value.slice.injEq, Option.some.injEq, Addr.mk.injEq, and_true] at eg
  obtain ⟨rfl, _, _⟩ := eg
  exact ⟨hB, hgs, hcell i hi⟩
theorem WorkL.set {w0 : World} {v : Value} {bo B g n cg : Nat} {L : List (List Int)} {w w' : World} (h : WorkL w0 v bo B g n cg L w) (hb : Below w.heap.size w w') {rv : Value} {xs : List Int} (hr : OwnRow 2 w' w.heap.size rv xs) {i : Nat} (hi : i < L.length) :
    WorkL w0 v bo B g n cg (L.set i xs) (w'.setCell ⟨g, i, none⟩ rv) := by
  obtain ⟨hB, hgs, _⟩ := h.at hi
  have hlow := h.low
  have h1 := h.keep hb
  exact ⟨⟨h1.two.arg.setOther (by simp; omega) _, h1.two.res.setOther (by simp; omega) _, h1.two.bel.setCell (by simp; omega) _⟩, h1.box.setOther h.ne _, h.own.setRow (by decide) hb hi (hr.mono (by omega)) (fun k hk => Or.inl (hr.lt k hk).1), hlow⟩

/-- Two different vertices of a graph. -/
def pairB (L : List (List Int)) (u x : Int) : Bool := decide (GraphP L) && inB u 0 ((L.length : Int) - 1) && inB x 0 ((L.length : Int) - 1) && (u != x)

end Go.Proofs.YtohjfcfcopbmoaaGreatDoor

/- Walks: an edge cut: the model's and the program's. -/
namespace Go.Proofs.YtohjfcfcopbmoaaGreatDoor
open Go.RowKit

theorem cell_set_blk {w : World} {a b : Addr} {u : Value} (v : Value) (hne : a.block ≠ b.block) (h : w.cell? b = some u) : (w.setCell a v).cell? b = some u :=
  (cell_set_other v (fun e => hne (congrArg Addr.block e))).trans h
theorem hasB_ne {L : List (List Int)} (hG : GraphP L) {u x : Int} (h0 : 0 ≤ u) (h1 : u < (L.length : Int)) (h : hasB (nthR L u.toNat) x = true) : u ≠ x := by
  intro e
  subst e
  have := (hG.2.1 u.toNat (by omega)).2
  rw [Int.toNat_of_nonneg h0, h] at this
  cases this
theorem edgeB_pair (L : List (List Int)) (u x : Int) : edgeB L u x = (pairB L u x && hasB (nthR L u.toNat) x) := by
  unfold edgeB pairB
  by_cases hG : GraphP L
  · by_cases hu : inB u 0 ((L.length : Int) - 1) = true
    · cases hh : hasB (nthR L u.toNat) x with
      | false => simp
      | true =>
        have hu' : 0 ≤ u ∧ u ≤ (L.length : Int) - 1 := by simpa [inB] using hu
        have hne := hasB_ne hG hu'.1 (by omega) hh
        have : (u != x) = true := by rw [bne_iff_ne]; exact hne
        rw [this]; simp
    · have hu' : inB u 0 ((L.length : Int) - 1) = false := by simpa using hu
      rw [hu']; simp
  · rw [decide_eq_false hG]; simp
theorem edgeB_nat {L : List (List Int)} {u x : Int} (h : edgeB L u x = true) : GraphP L ∧ ∃ p q : Nat, u = (p : Int) ∧ x = (q : Int) ∧ p < L.length ∧ q < L.length ∧ p ≠ q := by
  unfold edgeB inB at h
  simp at h
  obtain ⟨⟨⟨hG, hu⟩, hx⟩, hh⟩ := h
  have hne := hasB_ne hG hu.1 (by omega) hh
  exact ⟨hG, u.toNat, x.toNat, by omega, by omega, by omega, by omega, by omega⟩

/-- The graph without the edge. -/
def cutEL (L : List (List Int)) (u x : Int) : List (List Int) := if edgeB L u x = true then (L.set u.toNat (wo (nthR L u.toNat) x)).set x.toNat (wo (nthR L x.toNat) u) else []
theorem cutEL_no {L : List (List Int)} {u x : Int} (h : edgeB L u x = false) : cutEL L u x = [] := by rw [cutEL, h]; rfl
theorem nthR_set_ne {L : List (List Int)} {i j : Nat} (xs : List Int) (h : i ≠ j) : nthR (L.set i xs) j = nthR L j := by
  unfold nthR
  rw [List.getD_eq_getElem?_getD, List.getD_eq_getElem?_getD, List.getElem?_set_ne h]
theorem small_set {L : List (List Int)} (h : Small L) {i : Nat} {xs : List Int} (hx : xs.length ≤ 1048576) : Small (L.set i xs) := by
  refine ⟨by rw [List.length_set]; exact h.1, fun j hj => ?_⟩
  rw [List.length_set] at hj
  by_cases e : i = j
  · subst e
    unfold nthR
    rw [List.getD_eq_getElem?_getD, List.getElem?_set_self hj]
    exact hx
  · rw [nthR_set_ne xs e]; exact h.2 j hj
theorem row_small {L : List (List Int)} (hG : GraphP L) {i : Nat} (hi : i < L.length) : (nthR L i).length ≤ 16 := by rw [← row_list hG hi]; exact listM_len _
theorem cutEL_small (L : List (List Int)) (u x : Int) : Small (cutEL L u x) := by
  unfold cutEL
  split
  · rename_i h
    obtain ⟨hG, p, q, rfl, rfl, hp, hq, _⟩ := edgeB_nat h
    have h1 := wo_len (nthR L (p : Int).toNat) (q : Int)
    have h2 := wo_len (nthR L (q : Int).toNat) (p : Int)
    rw [Int.toNat_natCast] at h1 h2 ⊢
    have h3 := row_small hG hp
    have h4 := row_small hG hq
    exact small_set (small_set (graph_small hG) (by omega)) (by rw [Int.toNat_natCast]; omega)
  · exact ⟨by simp, fun i hi => absurd hi (by simp)⟩

/-- A copy laid and boxed. -/
theorem WorkL.start {w0 w w2 : World} {v : Value} {a2 : Option Addr} {n2 c2 : Nat} {L : List (List Int)} (ht : Two w0 v w) (hb : Below w.heap.size w w2) (ho : OwnGrid 2 33 w2 w.heap.size (.slice a2 n2 c2) L) (hl : 0 < L.length) :
    n2 = L.length ∧ ∃ g, a2 = some ⟨g, 0, none⟩ ∧ WorkL w0 v w2.heap.size w.heap.size g L.length c2 L (w2.alloc (.cells #[.slice (some ⟨g, 0, none⟩) L.length c2] 26)) := by
  obtain ⟨g, cap, eg, hB, hgs, _⟩ := ho.place hl
  simp only [Value.slice.injEq] at eg
  obtain ⟨rfl, rfl, rfl⟩ := eg
  have hbw : Below w2.heap.size w2 (w2.alloc (.cells #[.slice (some ⟨g, 0, none⟩) L.length c2] 26)) := (Below.refl _ _).alloc (Nat.le_refl _) _
  exact ⟨rfl, g, rfl, (ht.keep hb).keep hbw, BoxT.new _ _ _, ho.keep hbw, ht.lt⟩
theorem WorkL.done {w0 : World} {v : Value} {bo B g n cg : Nat} {L : List (List Int)} {w : World} (h : WorkL w0 v bo B g n cg L w) {ok : Bool} (hok : ok = true) : GaveGB w0 L ok (.returned (.tuple #[.agg #[.slice (some ⟨g, 0, none⟩) n cg], .bool true])) (w.setCell ⟨w0.heap.size + 1, 0, none⟩ (.slice (some ⟨g, 0, none⟩) n cg)) :=
  h.two.yes h.own h.low hok

end Go.Proofs.YtohjfcfcopbmoaaGreatDoor

/- Walks: an edge added. -/
namespace Go.Proofs.YtohjfcfcopbmoaaGreatDoor
open Go.RowKit

theorem listM_rise (M : Nat) : ∀ i j, i < j → j < (listM M).length → nth (listM M) i < nth (listM M) j := by
  intro i j hij hj
  have := List.pairwise_iff_getElem.1 (listM_set M).pairwise i j (by omega) hj hij
  rwa [nth_eq (by omega), nth_eq hj]
theorem rowWith_mask (v : Value) (M x : Nat) (w : World) (h : RowAt w v (listM M)) (hx : x < 16) (hn : M.testBit x = false) : Calls Tryz.prog 218 #[v, .int .i64 (x : Int)] w (GaveRow w (listM (M ||| 2 ^ x))) := by
  refine (rowWith_any v (listM M) (x : Int) w h (by unfold I64; omega) (by have := listM_len M; omega) (listM_rise M)).mono ?_
  rintro e w' ⟨k, hk, hlo, hhi, hg⟩
  rw [into_list hx hk hlo ?_] at hg
  · exact hg
  · by_cases e : k = (listM M).length
    · exact Or.inl e
    · right
      have h1 := hhi k (Nat.le_refl _) (by omega)
      have h2 : nth (listM M) k ≠ (x : Int) := by
        intro e2
        have := (listM_mem M (x : Int)).1 (e2 ▸ nth_mem (by omega))
        obtain ⟨i, _, h3, h4⟩ := this
        have : i = x := by omega
        subst this
        rw [hn] at h3
        cases h3
      omega

/-- May this edge be added? -/
def addB (L : List (List Int)) (u x : Int) : Bool := pairB L u x && !hasB (nthR L u.toNat) x
/-- The graph with it. -/
def addEL (L : List (List Int)) (u x : Int) : List (List Int) := if addB L u x = true then (L.set u.toNat (listM (rowM L u.toNat ||| 2 ^ x.toNat))).set x.toNat (listM (rowM L x.toNat ||| 2 ^ u.toNat)) else []
theorem addEL_no {L : List (List Int)} {u x : Int} (h : addB L u x = false) : addEL L u x = [] := by rw [addEL, h]; rfl
theorem pairB_nat {L : List (List Int)} {u x : Int} (h : pairB L u x = true) : GraphP L ∧ ∃ p q : Nat, u = (p : Int) ∧ x = (q : Int) ∧ p < L.length ∧ q < L.length ∧ p ≠ q := by
  unfold pairB inB at h
  simp at h
  obtain ⟨⟨⟨hG, hu⟩, hx⟩, hne⟩ := h
  exact ⟨hG, u.toNat, x.toNat, by omega, by omega, by omega, by omega, by omega⟩
theorem addB_nat {L : List (List Int)} {u x : Int} (h : addB L u x = true) : GraphP L ∧ ∃ p q : Nat, u = (p : Int) ∧ x = (q : Int) ∧ p < L.length ∧ q < L.length ∧ p ≠ q ∧ adjB L p q = false := by
  unfold addB at h
  rw [Bool.and_eq_true, Bool.not_eq_true'] at h
  obtain ⟨hG, p, q, rfl, rfl, hp, hq, hpq⟩ := pairB_nat h.1
  refine ⟨hG, p, q, rfl, rfl, hp, hq, hpq, ?_⟩
  have := h.2
  have hz := hG.1
  rwa [Int.toNat_natCast, adjB_has hG hp (by omega)] at this
theorem addEL_small (L : List (List Int)) (u x : Int) : Small (addEL L u x) := by
  unfold addEL
  split
  · rename_i h
    obtain ⟨hG, p, q, rfl, rfl, hp, hq, _, _⟩ := addB_nat h
    exact small_set (small_set (graph_small hG) (by have := listM_len (rowM L (p : Int).toNat ||| 2 ^ (q : Int).toNat); omega)) (by have := listM_len (rowM L (q : Int).toNat ||| 2 ^ (p : Int).toNat); omega)
  · exact ⟨by simp, fun i hi => absurd hi (by simp)⟩
theorem Two.keepB {w0 : World} {v : Value} {w w' : World} {B : Nat} (h : Two w0 v w) (hb : Below B w w') (hB : w0.heap.size + 1 < B) : Two w0 v w' :=
  ⟨h.arg.keepB hb (by omega), h.res.keepB hb hB, h.bel.trans (hb.mono (by omega))⟩

set_option maxHeartbeats 3200000 in
set_option maxRecDepth 100000 in
theorem implAddedEdge_any (v : Value) (L : List (List Int)) (u x : Int) (w : World) (h : GridAt w v L) (hu : I64 u) (hx : I64 x) : Calls Tryz.prog 138 #[.agg #[v], .int .i64 u, .int .i64 x] w (GaveGB w (addEL L u x) (addB L u x)) := by
  have hl := h.len
  unfold maxLen at hl
  obtain ⟨a0, c0, rfl⟩ := h.slice
  have T0 := Lib.hid (Two.start w (.slice a0 L.length c0))
  have HGK : Hid (∀ w', Below w.heap.size w w' → GridAt w' (.slice a0 L.length c0) L) := fun w' hb => h.keep hb
  clear h
  go_enter Tryz.func138, Tryz.ntmps138
  go_wp2_with fail
  refine (implGraphOk_any _ L _ (HGK.out _ T0.out.bel)).mono ?_
  rintro e w1 ⟨rfl, hb1⟩
  have T1 := Lib.hid (T0.out.keep hb1)
  clear hb1 T0
  by_cases hG : GraphP L
  · have HG := Lib.hid hG
    have hz := hG.1
    rw [decide_eq_true hG]
    clear hG
    by_cases hu1 : 0 ≤ u ∧ u < (L.length : Int)
    · have HDU : Hid (decide (0 ≤ u ∧ u < (L.length : Int)) = true) := decide_eq_true hu1
      by_cases hx1 : 0 ≤ x ∧ x < (L.length : Int)
      · have HDX : Hid (decide (0 ≤ x ∧ x < (L.length : Int)) = true) := decide_eq_true hx1
        by_cases hux : u = x
        · have HI : Hid (addB L u x = false) := by show addB L u x = false; unfold addB pairB; rw [hux]; simp
          have heq : (u == x) = true := by rw [hux]; simp
          have kr := T1.out.res.1
          have kf := T1.out.res.2
          clear hux hu1 hx1
          go_wp2_with fail
          refine (isVertex_any _ _ _).mono ?_
          rintro e w' ⟨rfl, rfl⟩
          rw [HDU.out]
          go_wp2_with fail
          refine (isVertex_any _ _ _).mono ?_
          rintro e w' ⟨rfl, rfl⟩
          rw [HDX.out]
          go_wp2
          exact bodyPost_ret (v := .tuple #[.agg #[.slice none 0 0], .bool false]) (by simp [results, Tryz.results138, go_sem, T1.out.q0]) rfl (T1.out.no (addEL_no HI.out) HI.out)
        · have HPP : Hid (pairB L u x = true) := by
            show pairB L u x = true
            unfold pairB inB
            rw [decide_eq_true HG.out, decide_eq_true (by omega : 0 ≤ u ∧ u ≤ (L.length : Int) - 1), decide_eq_true (by omega : 0 ≤ x ∧ x ≤ (L.length : Int) - 1)]
            have : (u != x) = true := by rw [bne_iff_ne]; exact hux
            rw [this]; rfl
          have heq : (u == x) = false := by rw [beq_eq_false_iff_ne]; exact hux
          have kb1 := T1.out.arg.1
          clear hux hu1 hx1
          go_wp2_with fail
          refine (isVertex_any _ _ _).mono ?_
          rintro e w' ⟨rfl, rfl⟩
          rw [HDU.out]
          go_wp2_with fail
          refine (isVertex_any _ _ _).mono ?_
          rintro e w' ⟨rfl, rfl⟩
          rw [HDX.out]
          go_wp2_with fail
          refine (implEdgeIn_any _ L u x _ (HGK.out _ T1.out.bel) hu hx).mono ?_
          rintro e w2 ⟨rfl, hb2⟩
          have T2 := Lib.hid (T1.out.keep hb2)
          clear hb2 kb1 T1
          by_cases hE : edgeB L u x = true
          · have HI : Hid (addB L u x = false) := by
              show addB L u x = false
              rw [edgeB_pair, Bool.and_eq_true] at hE
              unfold addB
              rw [hE.2]; simp
            have kr := T2.out.res.1
            have kf := T2.out.res.2
            rw [hE]
            clear hE
            go_wp2
            exact bodyPost_ret (v := .tuple #[.agg #[.slice none 0 0], .bool false]) (by simp [results, Tryz.results138, go_sem, T2.out.q0]) rfl (T2.out.no (addEL_no HI.out) HI.out)
          · have hE' : edgeB L u x = false := by simpa using hE
            have HI : Hid (addB L u x = true) := by
              show addB L u x = true
              rw [edgeB_pair, HPP.out, Bool.true_and] at hE'
              unfold addB
              rw [HPP.out, hE']; rfl
            have kb2 := T2.out.arg.1
            rw [hE']
            clear hE hE' heq
            obtain ⟨-, p, q, rfl, rfl, hp, hq, hpq, hadj⟩ := addB_nat HI.out
            have hadj2 : adjB L q p = false := by rw [adjB_sym HG.out]; exact hadj
            have HA1 := Lib.hid hadj
            have HA2 := Lib.hid hadj2
            clear hadj hadj2
            go_wp2_with fail
            refine (copied_any _ L _ (HGK.out _ T2.out.bel) (graph_small HG.out)).mono ?_
            rintro e w3 ⟨n2, a2, c2, rfl, ho2, hb2⟩
            obtain ⟨rfl, g, rfl, hwk⟩ := WorkL.start T2.out hb2 ho2 (by omega)
            obtain ⟨bg, og, cg, A, C, eg, lg1, lg2, hcg⟩ := (HGK.out _ (Below.refl _ _)).pos (by omega)
            simp only [Value.slice.injEq, true_and] at eg
            obtain ⟨rfl, rfl⟩ := eg
            have hbgl : bg < w.heap.size := block_lt_of_cell (hcg p hp).1
            have HKC : Hid (∀ i, i < L.length → ∀ w', Below w.heap.size w w' → w'.cell? ⟨bg, og + i, none⟩ = some (.slice (A i) (nthR L i).length (C i)) ∧ RowAt w' (.slice (A i) (nthR L i).length (C i)) (listM (rowM L i))) := fun i hi w' hb => ⟨cell_keep hb (hcg i hi).1, by rw [row_list HG.out hi]; exact (hcg i hi).2.keep hb⟩
            have HWK := Lib.hid hwk
            have hpI : (p : Int) < (L.length : Int) := by omega
            have hqI : (q : Int) < (L.length : Int) := by omega
            have hq16 : q < 16 := by omega
            have hp16 : p < 16 := by omega
            clear hb2 ho2 kb2 hcg hwk
            go_wp2_with fail
            generalize hw4 : (w3.alloc (.cells #[.slice (some ⟨g, 0, none⟩) L.length c2] 26)) = w4 at HWK ⊢
            clear hw4
            have k8 := HWK.out.box.box.1
            have k3 := HWK.out.two.arg.1
            have kg := (HKC.out p hp _ HWK.out.two.bel).1
            obtain ⟨hBg, hgs, ap, mp, cp, kp, fp, -⟩ := HWK.out.at (i := p) hp
            have hlow := HWK.out.low
            have HKP := Lib.hid kp
            have HFP := Lib.hid fp
            have hne8 := HWK.out.ne
            clear kp fp
            go_region_held3 (fun wx => wx.cell? ⟨w3.heap.size, 0, none⟩ = some (.slice (some ⟨g, 0, none⟩) L.length c2) ∧ wx.cell? ⟨w.heap.size, 0, none⟩ = some (.slice (some ⟨bg, og, none⟩) L.length c0) ∧ wx.cell? ⟨bg, og + p, none⟩ = some (.slice (A p) (nthR L p).length (C p))) (first | exact ⟨k8, k3, kg⟩ | exact ⟨k8a, k3a, kga⟩ | exact ⟨cell_set_blk _ (fun e => hne8 e.symm) k8a, cell_set_blk _ (fun e => by simp at e; omega) k3a, cell_set_blk _ (fun e => by simp at e; omega) kga⟩)
              ((go_at_call 218; refine (rowWith_mask _ (rowM L p) q _ ((HKC.out p hp _ HWK.out.two.bel).2.keep (Below.refl _ _).drew) hq16 HA1.out).mono ?_; rintro e w5 ⟨n5, a5, c5, rfl, ho5, hb5⟩; have HB5 : Hid (Below w4.heap.size w4 w5) := (Below.refl _ _).drew.trans hb5; have k8a := cell_keep HB5.out k8; have k3a := cell_keep HB5.out k3; have kga := cell_keep HB5.out kg; have kpa := cell_keep HB5.out HKP.out; have fpa : w5.frozen? ⟨g, p, none⟩ = false := (by rw [HB5.out.frozen hgs]; exact HFP.out); have HO5 : Hid (OwnRow 2 w5 w4.heap.size (.slice a5 n5 c5) (listM (rowM L p ||| 2 ^ q))) := ho5; clear ho5 hb5))
            have hw6 := HWK.out.set HB5.out HO5.out hp
            clear kpa fpa k8a k3a kga k8 k3 kg HKP HFP HO5 HB5 HWK hne8 hBg hgs
            rename_i hHeld
            clear hHeld
            generalize (w5.setCell ⟨g, p, none⟩ (.slice a5 n5 c5)) = w6 at hw6 ⊢
            have hq' : q < (L.set p (listM (rowM L p ||| 2 ^ q))).length := by rw [List.length_set]; exact hq
            have HWK := Lib.hid hw6
            have k8 := HWK.out.box.box.1
            have k3 := HWK.out.two.arg.1
            have kg := (HKC.out q hq _ HWK.out.two.bel).1
            obtain ⟨hBg, hgs, ap, mp, cp, kp, fp, -⟩ := HWK.out.at (i := q) hq'
            have HKP := Lib.hid kp
            have HFP := Lib.hid fp
            have hne8 := HWK.out.ne
            clear kp fp hw6
            go_wp2_with fail
            go_region_held3 (fun wx => wx.cell? ⟨w3.heap.size, 0, none⟩ = some (.slice (some ⟨g, 0, none⟩) L.length c2) ∧ wx.cell? ⟨w.heap.size, 0, none⟩ = some (.slice (some ⟨bg, og, none⟩) L.length c0) ∧ wx.cell? ⟨bg, og + q, none⟩ = some (.slice (A q) (nthR L q).length (C q))) (first | exact ⟨k8, k3, kg⟩ | exact ⟨k8a, k3a, kga⟩ | exact ⟨cell_set_blk _ (fun e => hne8 e.symm) k8a, cell_set_blk _ (fun e => by simp at e; omega) k3a, cell_set_blk _ (fun e => by simp at e; omega) kga⟩)
              ((go_at_call 218; refine (rowWith_mask _ (rowM L q) p _ ((HKC.out q hq _ HWK.out.two.bel).2.keep (Below.refl _ _).drew) hp16 HA2.out).mono ?_; rintro e w7 ⟨n7, a7, c7, rfl, ho7, hb7⟩; have HB7 : Hid (Below w6.heap.size w6 w7) := (Below.refl _ _).drew.trans hb7; have k8a := cell_keep HB7.out k8; have k3a := cell_keep HB7.out k3; have kga := cell_keep HB7.out kg; have kpa := cell_keep HB7.out HKP.out; have fpa : w7.frozen? ⟨g, q, none⟩ = false := (by rw [HB7.out.frozen hgs]; exact HFP.out); have HO7 : Hid (OwnRow 2 w7 w6.heap.size (.slice a7 n7 c7) (listM (rowM L q ||| 2 ^ p))) := ho7; clear ho7 hb7))
            have hw8 := HWK.out.set HB7.out HO7.out hq'
            clear kpa fpa k8a k3a kga k8 k3 kg HKP HFP HO7 HB7 HWK hne8 hBg hgs
            rename_i hHeld
            clear hHeld
            generalize (w7.setCell ⟨g, q, none⟩ (.slice a7 n7 c7)) = w8 at hw8 ⊢
            have HW8 := Lib.hid hw8
            have k8 := HW8.out.box.box.1
            have kr := HW8.out.two.res.1
            have kf := HW8.out.two.res.2
            have HEL : Hid (addEL L (p : Int) (q : Int) = (L.set p (listM (rowM L p ||| 2 ^ q))).set q (listM (rowM L q ||| 2 ^ p))) := by show _ = _; rw [addEL, if_pos HI.out, Int.toNat_natCast, Int.toNat_natCast]
            clear hw8
            go_wp2
            refine bodyPost_ret (v := .tuple #[.agg #[.slice (some ⟨g, 0, none⟩) L.length c2], .bool true]) (by simp [results, Tryz.results138, go_sem, HW8.out.two.q0]) rfl ?_
            rw [HEL.out]
            exact HW8.out.done HI.out
      · have HDX : Hid (decide (0 ≤ x ∧ x < (L.length : Int)) = false) := decide_eq_false hx1
        have HI : Hid (addB L u x = false) := by
          show addB L u x = false
          unfold addB pairB inB
          rw [decide_eq_false (by omega : ¬ (0 ≤ x ∧ x ≤ (L.length : Int) - 1))]; simp
        have kr := T1.out.res.1
        have kf := T1.out.res.2
        clear hu1 hx1
        go_wp2_with fail
        refine (isVertex_any _ _ _).mono ?_
        rintro e w' ⟨rfl, rfl⟩
        rw [HDU.out]
        go_wp2_with fail
        refine (isVertex_any _ _ _).mono ?_
        rintro e w' ⟨rfl, rfl⟩
        rw [HDX.out]
        go_wp2
        exact bodyPost_ret (v := .tuple #[.agg #[.slice none 0 0], .bool false]) (by simp [results, Tryz.results138, go_sem, T1.out.q0]) rfl (T1.out.no (addEL_no HI.out) HI.out)
    · have HDU : Hid (decide (0 ≤ u ∧ u < (L.length : Int)) = false) := decide_eq_false hu1
      have HI : Hid (addB L u x = false) := by
        show addB L u x = false
        unfold addB pairB inB
        rw [decide_eq_false (by omega : ¬ (0 ≤ u ∧ u ≤ (L.length : Int) - 1))]; simp
      have kr := T1.out.res.1
      have kf := T1.out.res.2
      clear hu1
      go_wp2_with fail
      refine (isVertex_any _ _ _).mono ?_
      rintro e w' ⟨rfl, rfl⟩
      rw [HDU.out]
      go_wp2
      exact bodyPost_ret (v := .tuple #[.agg #[.slice none 0 0], .bool false]) (by simp [results, Tryz.results138, go_sem, T1.out.q0]) rfl (T1.out.no (addEL_no HI.out) HI.out)
  · have HI : Hid (addB L u x = false) := by show addB L u x = false; unfold addB pairB; rw [decide_eq_false hG]; simp
    have kr := T1.out.res.1
    have kf := T1.out.res.2
    rw [decide_eq_false hG]
    clear hG
    go_wp2
    exact bodyPost_ret (v := .tuple #[.agg #[.slice none 0 0], .bool false]) (by simp [results, Tryz.results138, go_sem, T1.out.q0]) rfl (T1.out.no (addEL_no HI.out) HI.out)

end Go.Proofs.YtohjfcfcopbmoaaGreatDoor

/- Walks: a vertex added: the model's. -/
namespace Go.Proofs.YtohjfcfcopbmoaaGreatDoor
open Go.RowKit

/-- May a vertex with these neighbours be added? -/
def avB (L : List (List Int)) (xs : List Int) : Bool := setB L xs && !((L.length : Int) == 16)
theorem avB_yes {L : List (List Int)} {xs : List Int} (h : avB L xs = true) : GraphP L ∧ SetP xs L.length ∧ L.length < 16 ∧ xs.length ≤ 16 := by
  unfold avB setB at h
  simp at h
  have := h.1.2.len (by omega)
  have := h.1.1.1
  exact ⟨h.1.1, h.1.2, by omega, by omega⟩
/-- Who is near whom when the new vertex has been joined to ys. -/
def avA (L : List (List Int)) (ys : List Int) (i j : Nat) : Bool := adjB L i j || (i == L.length && hasB ys (j : Int)) || (j == L.length && hasB ys (i : Int))
theorem hasB_nil (z : Int) : hasB [] z = false := by cases h : hasB [] z with | false => rfl | true => (rw [hasB_iff] at h; obtain ⟨q, hq, _⟩ := h; simp at hq)
theorem avA_link (L : List (List Int)) {y : Nat} (ys : List Int) (i j : Nat) : avA L (ys ++ [(y : Int)]) i j = linkA (avA L ys) y L.length i j := by
  unfold linkA avA
  rw [hasB_snoc, hasB_snoc]
  have c1 : ((j : Int) == (y : Int)) = (j == y) := by rw [Bool.eq_iff_iff, beq_iff_eq, beq_iff_eq]; omega
  have c2 : ((i : Int) == (y : Int)) = (i == y) := by rw [Bool.eq_iff_iff, beq_iff_eq, beq_iff_eq]; omega
  rw [c1, c2]
  cases adjB L i j <;> cases (i == L.length) <;> cases (j == L.length) <;> cases hasB ys (j : Int) <;> cases hasB ys (i : Int) <;> cases (i == y) <;> cases (j == y) <;> rfl
/-- The answer. -/
def avL (L : List (List Int)) (xs : List Int) : List (List Int) := if avB L xs = true then adjL (L.length + 1) (avA L xs) else []
theorem avL_no {L : List (List Int)} {xs : List Int} (h : avB L xs = false) : avL L xs = [] := by rw [avL, h]; rfl
theorem avL_small (L : List (List Int)) (xs : List Int) : Small (avL L xs) := by
  unfold avL
  split
  · rename_i h
    exact adjL_small _ _ (by have := (avB_yes h).2.2.1; omega)
  · exact ⟨by simp, fun i hi => absurd hi (by simp)⟩
theorem avA_start {L : List (List Int)} (hG : GraphP L) : L ++ [[]] = adjL (L.length + 1) (avA L []) := by
  apply nthR_ext
  · simp [adjL_len]
  · intro i hi
    rw [List.length_append, List.length_singleton] at hi
    rw [adjL_nth _ hi]
    have e : ∀ j, avA L [] i j = adjB L i j := fun j => by unfold avA; rw [hasB_nil, hasB_nil]; simp
    rw [pm_congr (fun j _ => e j)]
    by_cases h : i < L.length
    · rw [nthR_append_old h, ← rowM_pm hG, row_list hG h]
    · obtain rfl : i = L.length := by omega
      rw [nthR_append_last]
      have : pm (adjB L L.length) = 0 := by
        rw [← pm_false]
        refine pm_congr (fun j _ => ?_)
        cases hb : adjB L L.length j with
        | false => rfl
        | true => exact absurd (adjB_range hG hb).1 (by omega)
      rw [this, listM_zero]

end Go.Proofs.YtohjfcfcopbmoaaGreatDoor

/- Walks: a vertex added: the program's. -/
namespace Go.Proofs.YtohjfcfcopbmoaaGreatDoor
open Go.RowKit

/-- A row laid, its box laid, the copy grown by it, put back: the copy has one row more. -/
theorem WorkL.grow {w0 w w2 w7 : World} {v : Value} {bo B g n cg g7 cap7 : Nat} {L : List (List Int)} {xs : List Int} {rv : Value} {R : Nat → Value} (h : WorkL w0 v bo B g n cg L w) (hbo2 : w0.heap.size + 1 < bo) (hn : L.length = n) (hl : n ≤ 1000) (hb : Below w.heap.size w w2) (hr : OwnRow 2 w2 w.heap.size rv xs)
    (hR : w.ownsRow B 33 1 (.slice (some ⟨g, 0, none⟩) n cg) n ((List.range n).map R)) (hRr : ∀ i, i < n → OwnRow 2 w B (R i) (nthR L i)) (hRd : ∀ i j q, i < j → j < n → (R i).ownBlock = some q → (R j).ownBlock ≠ some q)
    (hown : w7.ownsRow B 33 1 (.slice (some ⟨g7, 0, none⟩) (n + 1) cap7) (n + 1) ((List.range n).map R ++ [rv])) (hgrow : (w2.alloc (.cells #[rv] 33)).grownBy w7 (Value.slice (some ⟨g, 0, none⟩) n cg).ownBlock) :
    BoxT 26 w7 bo (.slice (some ⟨g, 0, none⟩) n cg) ∧ WorkL w0 v bo B g7 (n + 1) cap7 (L ++ [xs]) (w7.setCell ⟨bo, 0, none⟩ (.slice (some ⟨g7, 0, none⟩) (n + 1) cap7)) := by
  subst hn
  have hBs : B ≤ w.heap.size := by
    rcases hR.2 with ⟨e, _⟩ | ⟨g', cap', cur', e, hg, hh, _⟩
    · cases e
    · obtain ⟨hlt, _⟩ := Array.getElem?_eq_some_iff.1 hh
      omega
  have hlow := h.low
  have hW : Below w.heap.size w (w2.alloc (.cells #[rv] 33)) := hb.alloc hb.size _
  have hbw : Below B w w7 := (hW.mono hBs).grown hgrow (by rw [size_alloc1]; have := hb.size; omega) (fun j hj => (hR.lt j hj).1)
  have hog : OwnGrid 2 33 w7 B (.slice (some ⟨g7, 0, none⟩) (L.length + 1) cap7) (L ++ [xs]) := by
    refine OwnGrid.snoc (w0 := w) (w := w2.alloc (.cells #[rv] 33)) (rv := rv) (n := L.length) (v := .slice (some ⟨g, 0, none⟩) L.length cg) (by decide) hW hBs ?_ rfl (by unfold maxLen; omega) R hR hRr hRd hown hgrow
    exact hr.keep ((Below.refl _ _).alloc (Nat.le_refl _) _)
  have hbt : BoxT 26 w7 bo (.slice (some ⟨g, 0, none⟩) L.length cg) := by
    unfold BoxT
    have hlt := h.box.lt
    rw [hgrow.block bo (by rw [size_alloc1]; have := hb.size; omega) (fun e => h.ne (by simpa [Value.ownBlock] using e)), hW.block bo hlt]
    exact h.box
  have t7 := h.two.keepB hbw hlow
  exact ⟨hbt, ⟨t7.arg.setOther (by simp; omega) _, t7.res.setOther (by simp; omega) _, t7.bel.setCell (by simp; omega) _⟩, hbt.set _, hog.setType hbt (by decide) (by decide) 0 _, hlow⟩

/-- Who is near whom among the old vertices and the new one, when the rows of ys have it. -/
def avP (L : List (List Int)) (ys : List Int) (i j : Nat) : Bool := adjB L i j || (j == L.length && hasB ys (i : Int))
theorem avP_start {L : List (List Int)} (hG : GraphP L) : L = adjL L.length (avP L []) := by
  have h := graph_adjL hG
  rw [← adjL_congr (A := avP L []) (A' := adjB L) (fun i _ j _ => by unfold avP; rw [hasB_nil]; simp)] at h
  exact h.symm
theorem avP_set {L : List (List Int)} (hG : GraphP L) (hn : L.length < 16) {y : Nat} (ys : List Int) (hy : y < L.length) : (adjL L.length (avP L ys)).set y (listM (rowM L y ||| 2 ^ L.length)) = adjL L.length (avP L (ys ++ [(y : Int)])) := by
  apply nthR_ext
  · simp [adjL_len]
  · intro i hi
    rw [List.length_set, adjL_len] at hi
    rw [adjL_nth _ hi]
    by_cases e : y = i
    · subst e
      unfold nthR
      rw [List.getD_eq_getElem?_getD, List.getElem?_set_self (by rw [adjL_len]; exact hi)]
      show listM _ = listM _
      congr 1
      apply Nat.eq_of_testBit_eq
      intro j
      rw [Nat.testBit_or, rowM_pm hG, pm_bit, pm_bit, Nat.testBit_two_pow]
      unfold avP
      rw [hasB_snoc]
      have e1 : ((y : Int) == (y : Int)) = true := by simp
      have e2 : (j == L.length) = decide (L.length = j) := by by_cases h : L.length = j <;> simp [h]; omega
      rw [e1, e2, Bool.or_true, Bool.and_true]
      by_cases hj : j < 16
      · simp [hj]
      · simp [hj, show ¬ L.length = j from by omega]
    · rw [nthR_set_ne _ e, adjL_nth _ hi]
      congr 1
      refine pm_congr (fun j _ => ?_)
      unfold avP
      rw [hasB_snoc]
      have : ((i : Int) == (y : Int)) = false := by rw [beq_eq_false_iff_ne]; omega
      rw [this, Bool.or_false]
theorem avP_end {L : List (List Int)} {xs : List Int} (hG : GraphP L) (hs : SetP xs L.length) (hn : L.length < 16) : adjL L.length (avP L xs) ++ [xs] = adjL (L.length + 1) (avA L xs) := by
  apply nthR_ext
  · simp [adjL_len]
  · intro i hi
    rw [List.length_append, List.length_singleton, adjL_len] at hi
    rw [adjL_nth _ hi]
    by_cases h : i < L.length
    · rw [nthR_append_old (by rw [adjL_len]; exact h), adjL_nth _ h]
      congr 1
      refine pm_congr (fun j _ => ?_)
      unfold avP avA
      have : (i == L.length) = false := by rw [beq_eq_false_iff_ne]; omega
      rw [this]; simp
    · obtain rfl : i = L.length := by omega
      have e := nthR_append_last (adjL L.length (avP L xs)) xs
      rw [adjL_len] at e
      rw [e]
      refine sets_eq (SetP.mk hs.pairwise (fun x hx => by have := hs.bounds x hx; omega)) (listM_set _) (fun z => ?_)
      rw [listM_mem]
      have hadj : ∀ j, adjB L L.length j = false := fun j => by
        cases hb : adjB L L.length j with
        | false => rfl
        | true => exact absurd (adjB_range hG hb).1 (by omega)
      have hself : hasB xs (L.length : Int) = false := by
        cases hb : hasB xs (L.length : Int) with
        | false => rfl
        | true =>
          have := hs.bounds _ ((hasB_mem _ _).1 hb)
          omega
      constructor
      · intro hz
        have hb := hs.bounds z hz
        obtain ⟨j, rfl⟩ : ∃ j : Nat, z = (j : Int) := ⟨z.toNat, by omega⟩
        refine ⟨j, by omega, ?_, rfl⟩
        rw [pm_bit]
        unfold avA
        rw [(hasB_mem xs (j : Int)).2 hz]
        simp; omega
      · rintro ⟨j, hj, hb, rfl⟩
        rw [pm_bit, Bool.and_eq_true] at hb
        have hb2 := hb.2
        unfold avA at hb2
        rw [hadj, hself] at hb2
        simp at hb2
        exact (hasB_mem _ _).1 hb2

end Go.Proofs.YtohjfcfcopbmoaaGreatDoor
