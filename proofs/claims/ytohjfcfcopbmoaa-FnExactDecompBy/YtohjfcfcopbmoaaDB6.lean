/- Walks: DecompBy, of the program. -/
import Derived.Test.YtohjfcfcopbmoaaDB5
import Derived.Test.YtohjfcfcopbmoaaDB3
import Derived.Test.YtohjfcfcopbmoaaCL3

namespace Go.Proofs.Ytohjfcfcopbmoaa
open Go.RowKit

theorem least_at (p : Nat → Bool) : ∀ n, (∃ j, j < n ∧ p j = true) → ∃ f, f < n ∧ p f = true ∧ ∀ j, j < f → p j = false
  | 0, h => by obtain ⟨j, hj, _⟩ := h; omega
  | n + 1, h => by
    by_cases h1 : ∃ j, j < n ∧ p j = true
    · obtain ⟨f, hf, h2, h3⟩ := least_at p n h1
      exact ⟨f, by omega, h2, h3⟩
    · obtain ⟨j, hj, h2⟩ := h
      have hn : ∀ i, i < n → p i = false := fun i hi => by
        cases hc : p i with
        | false => rfl
        | true => exact absurd ⟨i, hi, hc⟩ h1
      have : j = n := by
        rcases Nat.lt_or_ge j n with h3 | h3
        · exact absurd ⟨j, h3, h2⟩ h1
        · omega
      subst this
      exact ⟨j, by omega, h2, hn⟩
/-- The program's search finds the bag with which bag k is linked. -/
theorem idx_first {L : List (List Int)} {xs : List Int} (hG : GraphP L) (hO : OrdP xs L.length) {k : Nat} (hk : k < xs.length) :
    (idxM (pm (dbS L xs k)) (xs.drop (k + 1)) = -1 ∧ dbTo L xs k = k + 1) ∨ ∃ f : Nat, idxM (pm (dbS L xs k)) (xs.drop (k + 1)) = (f : Int) ∧ dbTo L xs k = k + 1 + f ∧ k + 1 + f < xs.length := by
  have hl := hO.1
  have hz := hG.1
  have hdl : (xs.drop (k + 1)).length = xs.length - (k + 1) := List.length_drop
  have hnd : ∀ j, nth (xs.drop (k + 1)) j = nth xs (k + 1 + j) := fun j => by simp [nth]
  have hhm : ∀ j, j < xs.length - (k + 1) → hasM (pm (dbS L xs k)) (nth (xs.drop (k + 1)) j) = dbS L xs k (vtxN xs (k + 1 + j)) := fun j hj => by
    obtain ⟨u, hu, hux⟩ := ordP_at hO (i := k + 1 + j) (by omega)
    rw [hnd j]
    have hvn : vtxN xs (k + 1 + j) = u := by unfold vtxN; rw [hux, Int.toNat_natCast]
    rw [hvn, hux]
    unfold hasM
    rw [Int.toNat_natCast, pm_bit, decide_eq_true (show u < 16 by omega), decide_eq_true (show (0 : Int) ≤ (u : Int) ∧ (u : Int) < 16 by omega), Bool.true_and, Bool.true_and]
  have hlt : ∀ u, dbS L xs k u = true → u < 16 := fun u h => by have := dbS_lt hG xs k h; omega
  by_cases h0 : pm (dbS L xs k) = 0
  · left
    have hall := (pm_zero_iff hlt).1 h0
    exact ⟨idxM_none (fun j hj => by rw [hhm j (by omega)]; exact hall _), dbTo_none h0⟩
  · right
    have hx : ∃ u, dbS L xs k u = true := Classical.byContradiction fun hn => h0 ((pm_zero_iff hlt).2 (fun u => by
      cases hu : dbS L xs k u with
      | false => rfl
      | true => exact absurd ⟨u, hu⟩ hn))
    obtain ⟨u, hu⟩ := hx
    obtain ⟨t, h1, h2, h3⟩ := dbS_behind hG hO hk hu
    obtain ⟨f, hf1, hf2, hf3⟩ := least_at (fun j => dbS L xs k (vtxN xs (k + 1 + j))) (xs.length - (k + 1)) ⟨t - (k + 1), by omega, by
      show dbS L xs k (vtxN xs (k + 1 + (t - (k + 1)))) = true
      rw [show k + 1 + (t - (k + 1)) = t by omega]
      have : vtxN xs t = u := by unfold vtxN; rw [h3, Int.toNat_natCast]
      rw [this]; exact hu⟩
    refine ⟨f, idxM_at (by omega) (by rw [hhm f hf1]; exact hf2) (fun j hj => by rw [hhm j (by omega)]; exact hf3 j hj), ?_, by omega⟩
    exact dbTo_at hG hu (by omega) (by omega) hf2 (fun j h4 h5 => by
      have h6 := hf3 (j - (k + 1)) (by omega)
      have h7 : dbS L xs k (vtxN xs (k + 1 + (j - (k + 1)))) = false := h6
      rw [show k + 1 + (j - (k + 1)) = j by omega] at h7
      exact h7)

theorem OwnBy.setType {T T1 T2 : TypeId} {w : World} {B b : Nat} {v : Value} {L : List (List Int)} {R : Nat → Value} {cur : Array Value} {z : Nat × Nat} (h : OwnBy T T1 w B v L R) (hb : w.heap[b]? = some (.cells cur T2 z)) (h1 : T2 ≠ T) (h2 : T2 ≠ T1) (i : Nat) (u : Value) : OwnBy T T1 (w.setCell ⟨b, i, none⟩ u) B v L R := by
  refine ⟨h.len, ⟨h.owns.1, ?_⟩, fun j hj => ?_, h.diff⟩
  · rcases h.owns.2 with h3 | ⟨g, cap, cur', e, hg, hh, r⟩
    · exact Or.inl h3
    · refine Or.inr ⟨g, cap, cur', e, hg, ?_, r⟩
      rw [heap_setCell_other w ⟨b, i, none⟩ g u (fun e => ?_)]
      · exact hh
      · have e : g = b := e
        subst e
        rw [hh] at hb
        simp at hb
        exact h2 hb.2.1.symm
  · refine (h.rows j hj).setCell (fun e => ?_) u
    obtain ⟨c2, hc2⟩ := (h.rows j hj).blk e
    have hc2 : w.heap[b]? = _ := hc2
    rw [hb] at hc2
    simp at hc2
    exact h1 hc2.2.1
theorem PairBy.setType {T T1 T2 : TypeId} {w : World} {B b : Nat} {v v' : Value} {L L' : List (List Int)} {R R' : Nat → Value} {cur : Array Value} {z : Nat × Nat} (h : PairBy T T1 w B v v' L L' R R') (hb : w.heap[b]? = some (.cells cur T2 z)) (h1 : T2 ≠ T) (h2 : T2 ≠ T1) (i : Nat) (u : Value) : PairBy T T1 (w.setCell ⟨b, i, none⟩ u) B v v' L L' R R' :=
  ⟨h.one.setType hb h1 h2 i u, h.two.setType hb h1 h2 i u, h.apart, h.heads⟩
theorem lit2_own (T : TypeId) (w : World) (a b : Int) (B : Nat) (hB : B ≤ w.heap.size) (ha : I64 a) (hb : I64 b) : OwnRow T (w.alloc (.cells #[.int .i64 a, .int .i64 b] T)) B (.slice (some ⟨w.heap.size, 0, none⟩) 2 2) [a, b] := by
  refine ⟨fun x hx => by simp at hx; rcases hx with rfl | rfl <;> assumption, by simp [maxLen], Or.inr ⟨w.heap.size, 2, #[.int .i64 a, .int .i64 b], rfl, hB, heap_alloc_new _ _, Nat.le_refl _, by unfold maxLen; omega, rfl, fun i hi => ?_⟩⟩
  match i, hi with
  | 0, _ => rfl
  | 1, _ => rfl
/-- The program's decomposition, half done: its box lies at q. -/
structure DbI (w2 : World) (q : Nat) (L : List (List Int)) (xs : List Int) (k j : Nat) (W : World) : Prop where
  box : ∃ bv kv R R', Box2 27 W q bv kv ∧ PairBy 2 33 W (q + 1) bv kv (dbB L xs k) (dbK L xs j) R R'
  bel : Below q w2 W
theorem ownsRow_mono {w : World} {B B' : Nat} {T : TypeId} {v : Value} {n : Nat} {xs : List Value} (h : w.ownsRow B T 1 v n xs) (hb : B' ≤ B) : w.ownsRow B' T 1 v n xs := by
  refine ⟨h.1, ?_⟩
  rcases h.2 with h1 | ⟨g, cap, cur, e, hgB, r⟩
  · exact Or.inl h1
  · exact Or.inr ⟨g, cap, cur, e, by omega, r⟩
theorem OwnBy.mono {T T1 : TypeId} {w : World} {B B' : Nat} {v : Value} {L : List (List Int)} {R : Nat → Value} (h : OwnBy T T1 w B v L R) (hb : B' ≤ B) : OwnBy T T1 w B' v L R :=
  ⟨h.len, ownsRow_mono h.owns hb, fun i hi => (h.rows i hi).mono hb, h.diff⟩
theorem PairBy.mono {T T1 : TypeId} {w : World} {B B' : Nat} {v v' : Value} {L L' : List (List Int)} {R R' : Nat → Value} (h : PairBy T T1 w B v v' L L' R R') (hb : B' ≤ B) : PairBy T T1 w B' v v' L L' R R' :=
  ⟨h.one.mono hb, h.two.mono hb, h.apart, h.heads⟩
/-- A decomposition whose grids have no block in common, and a yes or no. -/
def GaveDP (w : World) (B K : List (List Int)) (ok : Bool) (e : Ending) (w' : World) : Prop :=
  ∃ (m : Nat) (a : Option Addr) (c m' : Nat) (a' : Option Addr) (c' : Nat) (R R' : Nat → Value), e = .returned (.tuple #[.agg #[.slice a m c, .slice a' m' c'], .bool ok]) ∧ PairBy 2 33 w' w.heap.size (.slice a m c) (.slice a' m' c') B K R R' ∧ Below w.heap.size w w'

set_option maxHeartbeats 8000000 in
set_option maxRecDepth 100000 in
theorem implDecompBy_any (v v1 : Value) (L : List (List Int)) (xs : List Int) (w : World) (h : GridAt w v L) (h1 : RowAt w v1 xs) : Calls Try.prog 16 #[.agg #[v], v1] w (GaveDP w (decBL L xs) (decKL L xs) (orderB L xs)) := by
  obtain ⟨i0, hi, hz0, hz1, hz2⟩ := info_parts Try.infoR
  obtain ⟨a0, c0, rfl⟩ := h.slice
  obtain ⟨a1, c1, rfl⟩ := h1.slice
  have HGK : Hid (∀ w', Below w.heap.size w w' → GridAt w' (.slice a0 L.length c0) L) := fun w' hb => h.keep hb
  have HRK : Hid (∀ w', Below w.heap.size w w' → RowAt w' (.slice a1 xs.length c1) xs) := fun w' hb => h1.keep hb
  obtain ⟨wA, hwA⟩ : ∃ wA, wA = (w.alloc (.cells #[.slice a0 L.length c0] 37)).alloc (.cells #[.slice none 0 0, .slice none 0 0] 27) := ⟨_, rfl⟩
  have hb0 : Below w.heap.size w wA := by rw [hwA]; exact ((Below.refl _ _).alloc (Nat.le_refl _) _).alloc (by simp) _
  have hsA : wA.heap.size = w.heap.size + 2 := by rw [hwA]; simp
  have hY : Box2 27 wA (w.heap.size + 1) (.slice none 0 0) (.slice none 0 0) := by
    rw [hwA]
    have h5 := Box2.new (w.alloc (.cells #[.slice a0 L.length c0] 37)) (.slice none 0 0) (.slice none 0 0) 27
    rw [size_alloc1] at h5
    exact h5
  have HB0 := Lib.hid hb0
  have HY0 := Lib.hid hY
  have HSA := Lib.hid hsA
  have hX : BoxAt wA w.heap.size (.slice a0 L.length c0) := by
    rw [hwA]; exact (BoxAt.new w (.slice a0 L.length c0) 37).keep ((Below.refl _ _).alloc (Nat.le_refl _) _)
  have HX0 := Lib.hid hX
  clear h h1 hb0 hY hsA hX
  go_enter Try.func16, Try.ntmps16
  go_wp2_with fail
  rw [← hwA]
  refine (orderedNet_any _ _ L xs _ (HGK.out _ HB0.out) (HRK.out _ HB0.out)).mono ?_
  rintro e w1 ⟨rfl, hb1⟩
  have HB1 : Hid (Below w.heap.size w w1) := HB0.out.trans (hb1.mono HB0.out.size)
  have HY1 := Lib.hid (HY0.out.keep hb1)
  have HX1 := Lib.hid (HX0.out.keep hb1)
  have hz1' : w.heap.size + 2 ≤ w1.heap.size := by have := hb1.size; have := HSA.out; omega
  have hnb := netBlk_new w1 0 (fun _ => 0)
  clear hb1 HB0 HY0 HX0 hwA
  by_cases hok : orderB L xs = true
  · obtain ⟨hG, hO, hx0, hx16⟩ := orderB_yes hok
    have hz := hG.1
    have HI := Lib.hid hok
    have HG := Lib.hid hG
    have HO := Lib.hid hO
    have HXL : Hid (xs.length = L.length) := hO.1
    have HREL := Lib.hid (adjB_rel hG)
    rw [hok]
    clear hok hG hO
    go_wp2_with (refine wpList_store_net rfl 61 (.tmp 6) (.tmp 19) rfl w1.heap.size (ordN L xs) (ordM L xs) rfl rfl Try.sizeNet 0 (fun _ => 0) hnb ?_; intro w3 hp; have HN3 := Lib.hid (ord_net hp.net HI.out); have HB3 : Hid (Below w.heap.size w w3) := (HB1.out.alloc (by omega) _).trans (hp.below.mono (by omega)); have HY3 : Hid (Box2 27 w3 (w.heap.size + 1) (.slice none 0 0) (.slice none 0 0)) := (by show _ = _; rw [hp.below.block _ (by omega)]; exact (HY1.out.keep ((Below.refl _ _).alloc (Nat.le_refl _) _))); have hz3 : w.heap.size + 2 ≤ w3.heap.size := (by have h9 := hp.below.size; simp at h9; omega); clear hp)
    refine (later_any w1.heap.size L.length (adjB L) _ xs _ HN3.out hz HREL.out (HRK.out _ HB3.out) HO.out).mono ?_
    rintro e w5 ⟨rfl, hb5⟩
    obtain ⟨M, hM⟩ : ∃ M : Nat → Nat, M = fun i => pm (laterA (adjB L) xs i) := ⟨_, rfl⟩
    have HME : Hid (∀ k, M k = pm (laterA (adjB L) xs k)) := fun k => by rw [hM]
    have HCS : Hid ((Try.prog.info? 59).map (·.size) = some (maskCells M).toArray.size) := by show _ = _; rw [Try.sizeMs]; simp [maskCells]
    rw [← hM]
    have HB5 : Hid (Below w.heap.size w w5) := HB3.out.trans (hb5.mono HB3.out.size)
    have HY5 : Hid (Box2 27 w5 (w.heap.size + 1) (.slice none 0 0) (.slice none 0 0)) := HY3.out.keep hb5
    have hz5 : w.heap.size + 2 ≤ w5.heap.size := by have := hb5.size; omega
    have HNEW : Hid ((w5.alloc (.cells (maskCells (fun _ => 0)).toArray 59)).heap[w5.heap.size]? = some (.cells (maskCells (fun _ => 0)).toArray 59 (0, 0))) := heap_alloc_new _ _
    clear hb5 hM HN3
    go_wp2_with (refine wpList_store_row rfl 59 (.tmp 8) (.tmp 25) rfl w5.heap.size (maskCells M).toArray rfl rfl 59 (maskCells (fun _ => 0)).toArray HNEW.out HCS.out (by simp [maskCells]) (mask_one _) ?_)
    change Code.wp _ _ _ _ ((World.setRow (w5.alloc (.cells (maskCells (fun _ => 0)).toArray 59)) w5.heap.size (maskCells M).toArray).alloc (.cells #[.slice none 0 0, .slice none 0 0] 27))
    obtain ⟨w6, hw6⟩ : ∃ w6, w6 = World.setRow (w5.alloc (.cells (maskCells (fun _ => 0)).toArray 59)) w5.heap.size (maskCells M).toArray := ⟨_, rfl⟩
    have hb6 : Below w5.heap.size w5 w6 := by
      rw [hw6]
      exact ((Below.refl _ _).alloc (Nat.le_refl _) _).trans ⟨rfl, rfl, rfl, by simp [World.setRow], fun k hk => setRow_other _ w5.heap.size k _ (by omega)⟩
    have HMK : Hid (w6.rowIs w5.heap.size 59 16 (fun i => .int .u32 (M i : Int))) := by
      refine Lib.hid ⟨(maskCells M).toArray, ?_, by simp [maskCells], fun i hi => by rw [List.getElem?_toArray, maskCells_get _ hi]⟩
      rw [hw6]
      exact setRow_heap _ _ _ _ 59 _ HNEW.out
    have hs6 : w6.heap.size = w5.heap.size + 1 := by rw [hw6]; simp [World.setRow]
    have HB6 : Hid (Below w.heap.size w w6) := HB5.out.trans (hb6.mono (by omega))
    have HY6 := Lib.hid (HY5.out.keep hb6)
    rw [← hw6]
    clear hw6 HNEW HB5 HY5 hb6
    obtain ⟨w7, hw7⟩ : ∃ w7, w7 = w6.alloc (.cells #[.slice none 0 0, .slice none 0 0] 27) := ⟨_, rfl⟩
    have HS0 : Hid (DbI w6 (w5.heap.size + 1) L xs 0 0 w7) := by
      rw [hw7, ← hs6]
      exact ⟨⟨_, _, fun _ => .slice none 0 0, fun _ => .slice none 0 0, Box2.new w6 (.slice none 0 0) (.slice none 0 0) 27, by rw [dbB_zero, dbK_zero]; exact PairBy.nil _ _ _ _⟩, (Below.refl _ _).alloc (Nat.le_refl _) _⟩
    obtain ⟨bx, ox, cx, ex, lx1, lx2, hcx⟩ := (HRK.out w (Below.refl _ _)).pos (by have := HXL.out; omega)
    simp only [Value.slice.injEq, true_and] at ex
    obtain ⟨rfl, rfl⟩ := ex
    have HCX := Lib.hid hcx
    clear hcx HX1 HREL hnb
    rw [← hw7]
    clear hw7
    go_loopw [29] (fun i wr => ∃ k : Nat, k ≤ xs.length ∧ i = .int .i64 k ∧ DbI w6 (w5.heap.size + 1) L xs k k wr) (fun i _ => xs.length - (intOf i).toNat)
    case atStart => exact ⟨0, Nat.zero_le _, rfl, HS0.out⟩
    case round =>
      obtain ⟨k, hk, rfl, ⟨bv, kv, R, R', hbx, hpr⟩, hbel⟩ := hrel
      have HBX := Lib.hid hbx
      have HPR := Lib.hid hpr
      have HBL := Lib.hid hbel
      have HBW : Hid (Below w.heap.size w wr) := HB6.out.trans (hbel.mono (by omega))
      have HYR : Hid (Box2 27 wr (w.heap.size + 1) (.slice none 0 0) (.slice none 0 0)) := by
        show _ = _
        rw [hbel.block _ (by omega)]; exact HY6.out
      have hzr : w5.heap.size + 2 ≤ wr.heap.size := hbx.lt
      clear hbx hpr hbel HS0
      by_cases hlt : k < xs.length
      · have hxl := HXL.out
        have hn16 : xs.length ≤ 16 := by omega
        obtain ⟨v, hv, hvx⟩ := ordP_at HO.out hlt
        have HV : Hid (vtxN xs k = v) := by show _ = _; unfold vtxN; rw [hvx, Int.toNat_natCast]
        have kx := cell_keep HBW.out (HCX.out k hlt)
        rw [hvx] at kx
        have HMS : Hid (M v = pm (dbS L xs k)) := by show _ = _; rw [HME.out]; unfold dbS; rw [HV.out]
        have hml : M v < 65536 := by rw [HME.out]; exact pm_lt _
        have km : wr.cell? ⟨w5.heap.size, v, none⟩ = some (.int .u32 (M v : Int)) := by
          rw [HBL.out.cell (by simp)]
          exact HMK.out.cell (by omega)
        have hv16 : (v : Int) < 16 := by omega
        have hkI : (k : Int) < (xs.length : Int) := by omega
        obtain ⟨q, HQ⟩ : ∃ q : Nat, Hid (q = k + 1) := ⟨k + 1, rfl⟩
        have hwq : IntKind.i64.wrap ((k : Int) + 1) = (q : Int) := by rw [IntKind.wrap_i64]; have := HQ.out; omega
        have hql : (q : Int) ≤ (xs.length : Int) := by have := HQ.out; omega
        have hkc : (k : Int) ≤ (c1 : Int) := by omega
        obtain ⟨m, hm⟩ : ∃ m, m = M v := ⟨_, rfl⟩
        rw [← hm] at km hml HMS
        obtain ⟨wB, hwB⟩ : ∃ wB, wB = wr.alloc (.cells #[.int .u32 (m : Int)] 58) := ⟨_, rfl⟩
        have hbB : Below wr.heap.size wr wB := by rw [hwB]; exact (Below.refl _ _).alloc (Nat.le_refl _) _
        have HNB : Hid (wB.heap[wr.heap.size]? = some (.cells #[.int .u32 (m : Int)] 58 (0, 0))) := by rw [hwB]; exact heap_alloc_new _ _
        have hsB : wB.heap.size = wr.heap.size + 1 := by rw [hwB]; simp
        have HBB := Lib.hid hbB
        clear hxl hvx hm hbB
        go_upto_region 10 with fail
        rw [← hwB]
        clear kx km hwB
        have HRB : Hid (RowAt wB (.slice (some ⟨bx, ox, none⟩) xs.length c1) xs) := HRK.out _ (HBW.out.trans (HBB.out.mono (by omega)))
        have HCB : Hid (∀ i, i < xs.length → wB.cell? ⟨bx, ox + i, none⟩ = some (.int .i64 (nth xs i))) := fun i hi => cell_keep (HBW.out.trans (HBB.out.mono (by omega))) (HCX.out i hi)
        go_cut [13] (fun rv W => ∃ o', rv = .slice (some ⟨bx, o', none⟩) (xs.length - q) (c1 - q) ∧ RowAt W (.slice (some ⟨bx, o', none⟩) (xs.length - q) (c1 - q)) (xs.drop q) ∧ W = wB)
        case first =>
          have hsp : (c1 = q) = True ∨ (c1 = q) = False := by
            by_cases e : c1 = q
            · exact Or.inl (eq_true e)
            · exact Or.inr (eq_false e)
          rcases hsp with hsp | hsp
          · go_wp2_with fail
            go_meet
            exact ⟨_, rfl, HRB.out.dropped HCB.out q rfl (fun h => absurd h (by have := of_eq_true hsp; omega)) (by omega) (by omega), rfl⟩
          · go_wp2_with fail
            go_meet
            exact ⟨_, rfl, HRB.out.dropped HCB.out q rfl (fun _ => rfl) (by omega) (by omega), rfl⟩
        case rest =>
          obtain ⟨o', rfl, hrw, hwc⟩ := hcut
          subst hwc
          have HRW := Lib.hid hrw
          clear hrw hwq hkc HRB HCB
          have hxq : ((xs.length - q : Nat) : Int) = (xs.length : Int) - (q : Int) := by omega
          go_upto_if 43 with fail
          go_cut [] (fun W => DbI w6 (w5.heap.size + 1) L xs k (k + 1) W ∧ W.heap[wr.heap.size]? = some (.cells #[.int .u32 (m : Int)] 58 (0, 0)) ∧ wr.heap.size + 1 ≤ W.heap.size)
          case first =>
            by_cases hq : q < xs.length
            · have HIX : Hid ((idxM m (xs.drop q) = -1 ∧ dbTo L xs k = q) ∨ ∃ f : Nat, idxM m (xs.drop q) = (f : Int) ∧ dbTo L xs k = q + f ∧ q + f < xs.length) := by
                show _ ∨ _
                rw [HMS.out, HQ.out]
                exact idx_first HG.out HO.out hlt
              have hmf : ∀ (fn : Fn) (first cap : Array Value) (w : World), (Instr.makeFunc fn first cap).run Try.prog w = .ok (.func fn first cap) w := fun _ _ _ _ => rfl
              have kmB : wc.cell? ⟨wr.heap.size, 0, none⟩ = some (.int .u32 (m : Int)) := by rw [cell_of_row _ _ 0 _ _ _ HNB.out]; rfl
              rw [decide_eq_true hq]
              go_wp2_with fail
              refine (indexHas_any m _ (xs.drop q) _ hml HRW.out).mono ?_
              rintro e w' ⟨rfl, rfl⟩
              obtain ⟨ak, ck, ek⟩ := HPR.out.two.grid.grid.slice
              have hkl : (dbK L xs k).length = k := by rw [dbK_len]; have := HQ.out; omega
              rw [hkl] at ek
              subst ek
              have HKL := Lib.hid hkl
              have HK1 : Hid (wr.ownsRow (w5.heap.size + 1 + 1) 33 1 (.slice ak k ck) k ((List.range k).map R')) := by
                have h5 := HPR.out.two.owns
                rw [hkl] at h5
                exact h5
              have kv1 := (HBX.out.keep HBB.out).c1
              clear hkl
              rcases HIX.out with ⟨e, ht⟩ | ⟨f, e, ht, hf⟩
              · rw [e]
                have HWL : Hid (Below wr.heap.size wr ((wc.alloc (.cells #[.int .i64 (k : Int), .int .i64 ((k : Int) + 1)] 2)).alloc (.cells #[.slice (some ⟨wr.heap.size + 1, 0, none⟩) 2 2] 33))) := (HBB.out.alloc HBB.out.size _).alloc (by rw [size_alloc1]; omega) _
                have HLT : Hid (OwnRow 2 ((wc.alloc (.cells #[.int .i64 (k : Int), .int .i64 ((k : Int) + 1)] 2)).alloc (.cells #[.slice (some ⟨wr.heap.size + 1, 0, none⟩) 2 2] 33)) wr.heap.size (.slice (some ⟨wr.heap.size + 1, 0, none⟩) 2 2) [(k : Int), ((k : Int) + 1)]) := by
                  have h5 := lit2_own 2 wc (k : Int) ((k : Int) + 1) wr.heap.size (by omega) (by unfold I64; omega) (by unfold I64; omega)
                  rw [hsB] at h5
                  exact h5.keep ((Below.refl _ _).alloc (Nat.le_refl _) _)
                have HOWN := Lib.hid (ownsRowB_keep HK1.out HWL.out)
                have HNWS : Hid (∀ j u, ([Value.slice (some ⟨wr.heap.size + 1, 0, none⟩) 2 2] : List Value)[j]? = some u → ((wc.alloc (.cells #[.int .i64 (k : Int), .int .i64 ((k : Int) + 1)] 2)).alloc (.cells #[.slice (some ⟨wr.heap.size + 1, 0, none⟩) 2 2] 33)).cell? ((⟨wr.heap.size + 1 + 1, 0, none⟩ : Addr).add j) = some u) := by
                  have h5 := litB (wc.alloc (.cells #[.int .i64 (k : Int), .int .i64 ((k : Int) + 1)] 2)) (.slice (some ⟨wr.heap.size + 1, 0, none⟩) 2 2) 33
                  rw [size_alloc1, hsB] at h5
                  exact h5
                have HKE : Hid (dbK L xs k ++ [[(k : Int), ((k : Int) + 1)]] = dbK L xs (k + 1)) := by show _ = _; rw [dbK_succ L (by have := HQ.out; omega), ht, HQ.out]; rfl
                have HHS : Hid (((wc.alloc (.cells #[.int .i64 (k : Int), .int .i64 ((k : Int) + 1)] 2)).alloc (.cells #[.slice (some ⟨wr.heap.size + 1, 0, none⟩) 2 2] 33)).heap.size = wr.heap.size + 3) := by show _ = _; rw [size_alloc1, size_alloc1, hsB]
                go_wp2_with (at_builtin; refine wpList_append_lies _ rfl (.tmp 50) (.tmp 57) 22 rfl (w5.heap.size + 1 + 1) 33 i0 (.slice none 0 0) 1 24 Try.underlying22 hi hz0 hz1 hz2 rfl (by decide) _ _ _ rfl HOWN.out ⟨wr.heap.size + 1 + 1, 0, none⟩ 1 1 [.slice (some ⟨wr.heap.size + 1, 0, none⟩) 2 2] rfl rfl HNWS.out (fun u hu => by rw [List.mem_singleton] at hu; subst hu; rfl) Nat.one_pos ?d3 ?d4 ?d5 (wr.heap.size + 3) HHS.out ?_)
                case d3 => unfold maxLen; omega
                case d4 => omega
                case d5 => have := HHS.out; omega
                intro g9 cap9 w9 hown9 hgrow9 hat9 hlt9
                have HM9 : Hid (Below (w5.heap.size + 1 + 1) wr w9) := (HWL.out.mono (by omega)).grown hgrow9 (by have := HHS.out; omega) (fun j hj => (HK1.out.lt j hj).1)
                have HX9 : Hid (Box2 27 w9 (w5.heap.size + 1) bv (.slice ak k ck)) := by show _ = _; rw [HM9.out.block _ (by omega)]; exact HBX.out
                have HPP : Hid (PairBy 2 33 w9 (w5.heap.size + 1 + 1) bv (.slice (some ⟨g9, 0, none⟩) (k + 1) cap9) (dbB L xs k) (dbK L xs (k + 1)) R (fun i => if i < (dbK L xs k).length then R' i else .slice (some ⟨wr.heap.size + 1, 0, none⟩) 2 2)) := by
                  rw [← HKE.out]
                  refine (PairBy.snoc (n := k) (by decide) HPR.out.swap HWL.out (by omega) HLT.out HKL.out.symm (by rw [HKL.out]; unfold maxLen; omega) (by rw [HKL.out]; exact hown9) hgrow9 (fun z hz => ?_)).swap
                  simp [Value.ownBlock] at hz
                  subst hz
                  rcases hat9 with h9 | h9
                  · exact Or.inl h9
                  · exact Or.inr (by omega)
                have HN9 : Hid (w9.heap[wr.heap.size]? = some (.cells #[.int .u32 (m : Int)] 58 (0, 0))) := by
                  show _ = _
                  rw [hgrow9.block wr.heap.size (by have := HHS.out; omega) (fun e => by have := (HK1.out.lt _ e.symm).2; omega), (((Below.refl wc.heap.size wc).alloc (Nat.le_refl _) _).alloc (by rw [size_alloc1]; omega) _).block _ (by omega)]
                  exact HNB.out
                have hz9 : wr.heap.size + 1 ≤ w9.heap.size := by have := hgrow9.size; have := HHS.out; omega
                have kb9 := HX9.out.c1
                have kf9 := HX9.out.frozen 1
                clear hown9 hgrow9 hat9 hlt9 kv1
                go_wp2
                go_meet
                exact ⟨⟨⟨bv, _, R, _, HX9.out.set1 _, HPP.out.setBelow (by simp) _⟩, (HBL.out.trans (HM9.out.mono (by omega))).setCell (by simp) _⟩, by rw [heap_setCell_other _ _ _ _ (by simp; omega)]; exact HN9.out, by rw [size_setCell1]; exact hz9⟩
              · rw [e]
                have HWL : Hid (Below wr.heap.size wr ((wc.alloc (.cells #[.int .i64 (k : Int), .int .i64 ((k : Int) + 1 + (f : Int))] 2)).alloc (.cells #[.slice (some ⟨wr.heap.size + 1, 0, none⟩) 2 2] 33))) := (HBB.out.alloc HBB.out.size _).alloc (by rw [size_alloc1]; omega) _
                have HLT : Hid (OwnRow 2 ((wc.alloc (.cells #[.int .i64 (k : Int), .int .i64 ((k : Int) + 1 + (f : Int))] 2)).alloc (.cells #[.slice (some ⟨wr.heap.size + 1, 0, none⟩) 2 2] 33)) wr.heap.size (.slice (some ⟨wr.heap.size + 1, 0, none⟩) 2 2) [(k : Int), ((k : Int) + 1 + (f : Int))]) := by
                  have h5 := lit2_own 2 wc (k : Int) ((k : Int) + 1 + (f : Int)) wr.heap.size (by omega) (by unfold I64; omega) (by unfold I64; omega)
                  rw [hsB] at h5
                  exact h5.keep ((Below.refl _ _).alloc (Nat.le_refl _) _)
                have HOWN := Lib.hid (ownsRowB_keep HK1.out HWL.out)
                have HNWS : Hid (∀ j u, ([Value.slice (some ⟨wr.heap.size + 1, 0, none⟩) 2 2] : List Value)[j]? = some u → ((wc.alloc (.cells #[.int .i64 (k : Int), .int .i64 ((k : Int) + 1 + (f : Int))] 2)).alloc (.cells #[.slice (some ⟨wr.heap.size + 1, 0, none⟩) 2 2] 33)).cell? ((⟨wr.heap.size + 1 + 1, 0, none⟩ : Addr).add j) = some u) := by
                  have h5 := litB (wc.alloc (.cells #[.int .i64 (k : Int), .int .i64 ((k : Int) + 1 + (f : Int))] 2)) (.slice (some ⟨wr.heap.size + 1, 0, none⟩) 2 2) 33
                  rw [size_alloc1, hsB] at h5
                  exact h5
                have HKE : Hid (dbK L xs k ++ [[(k : Int), ((k : Int) + 1 + (f : Int))]] = dbK L xs (k + 1)) := by show _ = _; rw [dbK_succ L (by have := HQ.out; omega), ht, HQ.out]; rw [show ((k + 1 + f : Nat) : Int) = (k : Int) + 1 + (f : Int) by omega]
                have HHS : Hid (((wc.alloc (.cells #[.int .i64 (k : Int), .int .i64 ((k : Int) + 1 + (f : Int))] 2)).alloc (.cells #[.slice (some ⟨wr.heap.size + 1, 0, none⟩) 2 2] 33)).heap.size = wr.heap.size + 3) := by show _ = _; rw [size_alloc1, size_alloc1, hsB]
                go_wp2_with (at_builtin; refine wpList_append_lies _ rfl (.tmp 50) (.tmp 57) 22 rfl (w5.heap.size + 1 + 1) 33 i0 (.slice none 0 0) 1 24 Try.underlying22 hi hz0 hz1 hz2 rfl (by decide) _ _ _ rfl HOWN.out ⟨wr.heap.size + 1 + 1, 0, none⟩ 1 1 [.slice (some ⟨wr.heap.size + 1, 0, none⟩) 2 2] rfl rfl HNWS.out (fun u hu => by rw [List.mem_singleton] at hu; subst hu; rfl) Nat.one_pos ?d3 ?d4 ?d5 (wr.heap.size + 3) HHS.out ?_)
                case d3 => unfold maxLen; omega
                case d4 => omega
                case d5 => have := HHS.out; omega
                intro g9 cap9 w9 hown9 hgrow9 hat9 hlt9
                have HM9 : Hid (Below (w5.heap.size + 1 + 1) wr w9) := (HWL.out.mono (by omega)).grown hgrow9 (by have := HHS.out; omega) (fun j hj => (HK1.out.lt j hj).1)
                have HX9 : Hid (Box2 27 w9 (w5.heap.size + 1) bv (.slice ak k ck)) := by show _ = _; rw [HM9.out.block _ (by omega)]; exact HBX.out
                have HPP : Hid (PairBy 2 33 w9 (w5.heap.size + 1 + 1) bv (.slice (some ⟨g9, 0, none⟩) (k + 1) cap9) (dbB L xs k) (dbK L xs (k + 1)) R (fun i => if i < (dbK L xs k).length then R' i else .slice (some ⟨wr.heap.size + 1, 0, none⟩) 2 2)) := by
                  rw [← HKE.out]
                  refine (PairBy.snoc (n := k) (by decide) HPR.out.swap HWL.out (by omega) HLT.out HKL.out.symm (by rw [HKL.out]; unfold maxLen; omega) (by rw [HKL.out]; exact hown9) hgrow9 (fun z hz => ?_)).swap
                  simp [Value.ownBlock] at hz
                  subst hz
                  rcases hat9 with h9 | h9
                  · exact Or.inl h9
                  · exact Or.inr (by omega)
                have HN9 : Hid (w9.heap[wr.heap.size]? = some (.cells #[.int .u32 (m : Int)] 58 (0, 0))) := by
                  show _ = _
                  rw [hgrow9.block wr.heap.size (by have := HHS.out; omega) (fun e => by have := (HK1.out.lt _ e.symm).2; omega), (((Below.refl wc.heap.size wc).alloc (Nat.le_refl _) _).alloc (by rw [size_alloc1]; omega) _).block _ (by omega)]
                  exact HNB.out
                have hz9 : wr.heap.size + 1 ≤ w9.heap.size := by have := hgrow9.size; have := HHS.out; omega
                have kb9 := HX9.out.c1
                have kf9 := HX9.out.frozen 1
                clear hown9 hgrow9 hat9 hlt9 kv1
                go_wp2
                go_meet
                exact ⟨⟨⟨bv, _, R, _, HX9.out.set1 _, HPP.out.setBelow (by simp) _⟩, (HBL.out.trans (HM9.out.mono (by omega))).setCell (by simp) _⟩, by rw [heap_setCell_other _ _ _ _ (by simp; omega)]; exact HN9.out, by rw [size_setCell1]; exact hz9⟩
            · rw [decide_eq_false hq]
              have hq1 := HQ.out
              have hKE : dbK L xs (k + 1) = dbK L xs k := dbK_last L (by omega)
              go_wp2
              go_meet
              refine ⟨⟨⟨bv, kv, R, R', HBX.out.keep HBB.out, ?_⟩, HBL.out.trans (HBB.out.mono (by omega))⟩, HNB.out, by omega⟩
              rw [hKE]
              exact HPR.out.keep HBB.out
          case rest =>
            obtain ⟨⟨⟨bv5, kv5, R5, R5', hx5, hp5⟩, hb5⟩, hn5, hz6⟩ := hcut
            have kbm : wc.cell? ⟨wr.heap.size, 0, none⟩ = some (.int .u32 (m : Int)) := by rw [cell_of_row _ _ 0 _ _ _ hn5]; rfl
            have kfm : wc.frozen? ⟨wr.heap.size, 0, none⟩ = false := frozen_of_row _ _ 0 _ _ hn5
            have HX5 := Lib.hid hx5
            have HP5 := Lib.hid hp5
            have HB5 := Lib.hid hb5
            have HN5 := Lib.hid hn5
            clear hx5 hp5 hb5 hn5 hxq
            go_wp2_with fail
            refine (add_any wr.heap.size 0 m (v : Int) wc kbm kfm hml (by omega) hv16).mono ?_
            rintro e w8 ⟨rfl, hd8⟩
            rw [Int.toNat_natCast] at hd8
            obtain ⟨ab, cb, eb⟩ := HP5.out.one.grid.grid.slice
            rw [dbB_len] at eb
            subst eb
            have HX8 : Hid (Box2 27 w8 (w5.heap.size + 1) (.slice ab k cb) kv5) := (HX5.out.other (a := ⟨wr.heap.size, 0, none⟩) (by simp; omega) _).keep (hd8.below _)
            have HP8 : Hid (PairBy 2 33 w8 (w5.heap.size + 1 + 1) (.slice ab k cb) kv5 (dbB L xs k) (dbK L xs (k + 1)) R5 R5') := (HP5.out.setType HN5.out (by decide) (by decide) 0 _).keep (hd8.below _)
            have HB8 : Hid (Below (w5.heap.size + 1) w6 w8) := (HB5.out.setCell (by simp; omega) _).trans (hd8.below _)
            have hz8 : wr.heap.size + 1 ≤ w8.heap.size := by have h9 := (hd8.below 0).size; rw [size_setCell1] at h9; omega
            have hml2 : m ||| 2 ^ v < 65536 := Nat.or_lt_two_pow (n := 16) hml (Nat.pow_lt_pow_right (by decide) (by omega))
            have km8 : w8.cell? ⟨wr.heap.size, 0, none⟩ = some (.int .u32 ((m ||| 2 ^ v : Nat) : Int)) := by
              rw [(hd8.below (wc.heap.size)).cell (by simp; omega), cell_of_row _ _ 0 _ _ _ (heap_setCell_same wc wr.heap.size 0 _ _ _ HN5.out)]; rfl
            have kb8 := HX8.out.c0
            have HK1 : Hid (w8.ownsRow (w5.heap.size + 1 + 1) 33 1 (.slice ab k cb) k ((List.range k).map R5)) := by
              have h5 := HP8.out.one.owns
              rw [dbB_len] at h5
              exact h5
            have KS : Hid (∀ W, Below w8.heap.size w8 W → W.cell? ⟨w5.heap.size + 1, 0, none⟩ = some (.slice ab k cb) ∧ W.cell? ⟨wr.heap.size, 0, none⟩ = some (.int .u32 ((m ||| 2 ^ v : Nat) : Int))) := fun W hb => ⟨cell_keep hb kb8, cell_keep hb km8⟩
            have HNB9 : Hid (dbB L xs k ++ [listM (m ||| 2 ^ v)] = dbB L xs (k + 1)) := by show _ = _; rw [dbB_succ, HMS.out, HV.out]
            have HC3 : Hid (k + 1 ≤ maxLen) := by show _ ≤ _; unfold maxLen; omega
            have HC4 : Hid ((k + 1) * 24 ≤ 140737488355328) := by show _ ≤ _; omega
            clear hd8 kbm kfm
            obtain ⟨m2, hm2⟩ : ∃ m2, m2 = m ||| 2 ^ v := ⟨_, rfl⟩
            rw [← hm2] at hml2 km8 KS HNB9
            clear hm2
            go_wp2_with fail
            go_region_law
              (first
                | (go_simp; go_at_call 44; refine (list_any m2 _ hml2).mono ?_; rintro e w9 ⟨n9, a9, c9, rfl, ho9, hb9⟩; have HB9 : Hid (Below w8.heap.size w8 w9) := (Below.refl _ _).drew.trans hb9; have HO9 : Hid (OwnRow 2 w9 w8.heap.size (.slice a9 n9 c9) (listM m2)) := ho9; have HZ9 : Hid (w8.heap.size ≤ w9.heap.size) := HB9.out.size; have HOR9 := Lib.hid (ownsRowB_keep HK1.out HB9.out); have ks9 := KS.out _ HB9.out; have ks9b := KS.out _ (HB9.out.alloc HB9.out.size (.cells #[.slice a9 n9 c9] 33)); clear ho9 hb9)
                | (refine step_append_lies _ (by rfl) (.tmp 63) (.tmp 66) 22 (by rfl) (w5.heap.size + 1 + 1) 33 i0 (.slice none 0 0) 1 24 Try.underlying22 hi hz0 hz1 hz2 rfl (by omega) (.slice ab k cb) k ((List.range k).map R5) (by rfl) (HOR9.out.alloc _) ⟨w9.heap.size, 0, none⟩ 1 1 [.slice a9 n9 c9] (by rfl) rfl (litB _ _ _) (fun u hu => by rw [List.mem_singleton] at hu; subst hu; rfl) Nat.one_pos HC3.out HC4.out (by have := HZ9.out; simp; omega) (w9.heap.size + 1) (size_alloc1 _ _) ?_; intro g10 cap10 w10 hown10 hgrow10 hat10 hlt10; have HM10 : Hid (Below (w5.heap.size + 1 + 1) w8 w10) := ((HB9.out.alloc HB9.out.size _).mono (by omega)).grown hgrow10 (by have := HZ9.out; simp; omega) (fun j hj => (HOR9.out.lt j hj).1); have HOW10 := Lib.hid hown10; have HGR10 := Lib.hid hgrow10; have HAT10 := Lib.hid hat10; have HX10 : Hid (Box2 27 w10 (w5.heap.size + 1) (.slice ab k cb) kv5) := (by show _ = _; rw [HM10.out.block _ (by omega)]; exact HX8.out); have kb10 := HX10.out.c0; have kf10 := HX10.out.frozen 0; clear hown10 hgrow10 hat10 hlt10))
            all_goals (
              have hpp := PairBy.snoc (T := 2) (T1 := 33) (w0 := w8) (w := w9.alloc (.cells #[.slice a9 n9 c9] 33)) (n := k) (by decide) HP8.out (HB9.out.alloc HB9.out.size _) (by omega) (HO9.out.keep ((Below.refl _ _).alloc (Nat.le_refl _) _)) (dbB_len L xs k).symm (by rw [dbB_len]; exact HC3.out) (by rw [dbB_len]; exact HOW10.out) HGR10.out (fun z hz => by
                simp [Value.ownBlock] at hz
                subst hz
                rcases HAT10.out with h9 | h9
                · exact Or.inl h9
                · exact Or.inr (by have := HZ9.out; omega))
              rw [HNB9.out] at hpp
              have HPP := Lib.hid hpp
              clear hpp
              go_wp2
              go_roundw
              case rel => exact ⟨k + 1, by omega, by go_num, ⟨⟨_, _, _, _, HX10.out.set0 _, HPP.out.setBelow (by simp) _⟩, (HB8.out.trans (HM10.out.mono (by omega))).setCell (by simp) _⟩⟩
              case measure => simp [intOf]; omega)
      · obtain rfl : k = xs.length := by omega
        have kb0 := HBX.out.c0
        have kb1 := HBX.out.c1
        have y0 := HYR.out.c0
        have y1 := HYR.out.c1
        have y2 := HYR.out.frozen 0
        have y3 := HYR.out.frozen 1
        obtain ⟨ab, cb, eb⟩ := HPR.out.one.grid.grid.slice
        obtain ⟨ak, ck, ek⟩ := HPR.out.two.grid.grid.slice
        subst eb ek
        have HE : Hid (decBL L xs = dbB L xs xs.length ∧ decKL L xs = dbK L xs xs.length) := ⟨if_pos HI.out, if_pos HI.out⟩
        go_wp2
        have HF : Hid (Box2 27 ((wr.setCell ⟨w.heap.size + 1, 0, none⟩ (.slice ab (dbB L xs xs.length).length cb)).setCell ⟨w.heap.size + 1, 1, none⟩ (.slice ak (dbK L xs xs.length).length ck)) (w.heap.size + 1) (.slice ab (dbB L xs xs.length).length cb) (.slice ak (dbK L xs xs.length).length ck)) := (HYR.out.set0 _).set1 _
        have q0 := HF.out.c0
        have q1 := HF.out.c1
        refine bodyPost_ret (v := .tuple #[.agg #[.slice ab (dbB L xs xs.length).length cb, .slice ak (dbK L xs xs.length).length ck], .bool true]) (by simp [results, Try.results16, go_sem, q0, q1]) rfl ?_
        rw [HE.out.1, HE.out.2, HI.out]
        exact ⟨_, _, _, _, _, _, R, R', rfl, ((HPR.out.setBelow (by simp; omega) _).setBelow (by simp; omega) _).mono (by omega), (HBW.out.setCell (by simp) _).setCell (by simp) _⟩
  · have hok' : orderB L xs = false := by simpa using hok
    have HE : Hid (decBL L xs = [] ∧ decKL L xs = []) := ⟨if_neg hok, if_neg hok⟩
    have HI := Lib.hid hok'
    rw [hok']
    clear hok hok'
    go_wp2_with (refine wpList_store_net rfl 61 (.tmp 6) (.tmp 19) rfl w1.heap.size (ordN L xs) (ordM L xs) rfl rfl Try.sizeNet 0 (fun _ => 0) hnb ?_; intro w3 hp; have HB3 : Hid (Below w.heap.size w w3) := (HB1.out.alloc (by omega) _).trans (hp.below.mono (by omega)); have HY3 : Hid (Box2 27 w3 (w.heap.size + 1) (.slice none 0 0) (.slice none 0 0)) := (by show _ = _; rw [hp.below.block _ (by omega)]; exact (HY1.out.keep ((Below.refl _ _).alloc (Nat.le_refl _) _))); have y0 := HY3.out.c0; have y1 := HY3.out.c1; have y2 := HY3.out.frozen 0; have y3 := HY3.out.frozen 1; clear hp)
    have HF : Hid (Box2 27 ((w3.setCell ⟨w.heap.size + 1, 0, none⟩ (.slice none 0 0)).setCell ⟨w.heap.size + 1, 1, none⟩ (.slice none 0 0)) (w.heap.size + 1) (.slice none 0 0) (.slice none 0 0)) := (HY3.out.set0 _).set1 _
    have q0 := HF.out.c0
    have q1 := HF.out.c1
    refine bodyPost_ret (v := .tuple #[.agg #[.slice none 0 0, .slice none 0 0], .bool false]) (by simp [results, Try.results16, go_sem, q0, q1]) rfl ?_
    rw [HE.out.1, HE.out.2, HI.out]
    exact ⟨0, none, 0, 0, none, 0, fun _ => .slice none 0 0, fun _ => .slice none 0 0, rfl, PairBy.nil _ _ _ _, (HB3.out.setCell (by simp) _).setCell (by simp) _⟩

end Go.Proofs.Ytohjfcfcopbmoaa
