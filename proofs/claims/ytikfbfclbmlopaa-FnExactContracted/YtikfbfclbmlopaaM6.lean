/- Walks: the subgraph of a set, the graph under other names. -/
import Derived.Test.YtikfbfclbmlopaaM4
import Derived.Test.YtikfbfclbmlopaaM5
import Derived.Test.YtikfbfclbmlopaaC3
import Derived.Test.YtikfbfclbmlopaaC5
namespace Go.Proofs.Ytikfbfclbmlopaa
open Go.RowKit

/-- The boxes of a function of one graph: its graph's and its result's. -/
structure Two (w0 : World) (v : Value) (w : World) : Prop where
  arg : BoxAt w w0.heap.size v
  res : BoxAt w (w0.heap.size + 1) (.slice none 0 0)
  bel : Below w0.heap.size w0 w
theorem Two.start (w : World) (v : Value) : Two w v ((w.alloc (.cells #[v] 26)).alloc (.cells #[.slice none 0 0] 26)) :=
  ⟨(BoxAt.new w v _).keep ((Below.refl _ _).alloc (Nat.le_refl _) _), by have := BoxAt.new (w.alloc (.cells #[v] 26)) (.slice none 0 0) 26; rwa [size_alloc1] at this, ((Below.refl _ _).alloc (Nat.le_refl _) _).alloc (by simp) _⟩
theorem Two.keep {w0 : World} {v : Value} {w w' : World} (h : Two w0 v w) (hb : Below w.heap.size w w') : Two w0 v w' :=
  ⟨h.arg.keep hb, h.res.keep hb, h.bel.trans (hb.mono h.bel.size)⟩
theorem Two.put {T : TypeId} {w0 : World} {v : Value} {w w' : World} {o : Obj} {n : Nat} {M : Nat → Nat} (h : Two w0 v w) (hp : NetPut T (w.alloc o) w' w.heap.size n M) : Two w0 v w' := h.keep hp.since
theorem Two.lt {w0 : World} {v : Value} {w : World} (h : Two w0 v w) : w0.heap.size + 1 < w.heap.size := h.res.lt
theorem Two.q0 {w0 : World} {v : Value} {w : World} (h : Two w0 v w) (u : Value) : (w.setCell ⟨w0.heap.size + 1, 0, none⟩ u).cell? ⟨w0.heap.size + 1, 0, none⟩ = some u := cell_set_same _ h.res.1
theorem Two.yes {w0 : World} {v : Value} {w : World} (h : Two w0 v w) {R : List (List Int)} {B m c : Nat} {a : Option Addr} {ok : Bool} (ho : OwnGrid 2 34 w B (.slice a m c) R) (hB : w0.heap.size + 1 < B) (hok : ok = true) :
    GaveGB w0 R ok (.returned (.tuple #[.agg #[.slice a m c], .bool true])) (w.setCell ⟨w0.heap.size + 1, 0, none⟩ (.slice a m c)) :=
  ⟨m, a, c, by rw [hok], (ho.setBelow hB _).mono (by omega), h.bel.setCell (by simp) _⟩
theorem Two.no {w0 : World} {v : Value} {w : World} (h : Two w0 v w) {R : List (List Int)} {ok : Bool} (hR : R = []) (hok : ok = false) :
    GaveGB w0 R ok (.returned (.tuple #[.agg #[.slice none 0 0], .bool false])) (w.setCell ⟨w0.heap.size + 1, 0, none⟩ (.slice none 0 0)) := by
  rw [hR, hok]
  exact GaveGB.no (h.bel.setCell (by exact Nat.le_succ _) _)

/-- Who is near whom among picked vertices. -/
def pickA (L : List (List Int)) (xs : List Int) (i j : Nat) : Bool := decide (i < xs.length) && decide (j < xs.length) && adjB L (nth xs i).toNat (nth xs j).toNat
theorem pickA_sym {L : List (List Int)} (hG : GraphP L) (xs : List Int) (i j : Nat) : pickA L xs i j = pickA L xs j i := by
  unfold pickA
  rw [adjB_sym hG]
  cases decide (i < xs.length) <;> cases decide (j < xs.length) <;> rfl
theorem pickA_self {L : List (List Int)} (hG : GraphP L) (xs : List Int) (i : Nat) : pickA L xs i i = false := by
  unfold pickA
  rw [adjB_self hG, Bool.and_false]
theorem pickA_range {L : List (List Int)} {xs : List Int} {i j : Nat} (h : pickA L xs i j = true) : i < xs.length ∧ j < xs.length := by
  unfold pickA at h
  simp at h
  exact h.1
/-- The list names vertices of the graph. -/
def InP (L : List (List Int)) (xs : List Int) : Prop := ∀ i, i < xs.length → 0 ≤ nth xs i ∧ nth xs i < (L.length : Int)
theorem pickA_spec {L : List (List Int)} {xs : List Int} (hG : GraphP L) (hx : InP L xs) : ∀ k i, k < i → i < xs.length → pickA L xs k i = hasB (nthR L (nth xs i).toNat) (nth xs k) := by
  intro k i hki hi
  have h1 := hx k (by omega)
  have h2 := hx i hi
  have hz := hG.1
  unfold pickA
  rw [decide_eq_true hi, decide_eq_true (by omega : k < xs.length), adjB_sym hG, ← adjB_has hG (by omega) (by omega), Int.toNat_of_nonneg h1.1]
  rfl
theorem pickA_impl {L : List (List Int)} {xs : List Int} (hG : GraphP L) (hx : InP L xs) : ∀ i j, i < xs.length → j < xs.length → pickA L xs i j = hasM (rowM L (nth xs i).toNat) (nth xs j) := by
  intro i j hi hj
  have h1 := hx j hj
  have hz := hG.1
  unfold pickA
  rw [decide_eq_true hi, decide_eq_true hj, ← adjB_hasM _ (by omega), Int.toNat_of_nonneg h1.1]
  rfl
theorem SetP.inP {L : List (List Int)} {xs : List Int} (h : SetP xs L.length) : InP L xs := fun i hi => ⟨(h i hi).1, by have := (h i hi).2.1; omega⟩
theorem OrdP.inP {L : List (List Int)} {xs : List Int} (h : OrdP xs L.length) : InP L xs := fun i hi => by
  have := (h.2 i hi).1
  have : 0 ≤ nth xs i ∧ nth xs i ≤ (L.length : Int) - 1 := by simpa [inB] using this
  omega

/-- The graph of picked vertices, where there is one. -/
def pickL (L : List (List Int)) (xs : List Int) (ok : Bool) : List (List Int) := if ok = true then adjL xs.length (pickA L xs) else []
theorem pickL_small {L : List (List Int)} {xs : List Int} {ok : Bool} (h : ok = true → xs.length ≤ 16) : Small (pickL L xs ok) := by
  unfold pickL
  split
  · rename_i h1
    exact adjL_small _ _ (h h1)
  · exact ⟨by simp, fun i hi => absurd hi (by simp)⟩
/-- May this subgraph be? -/
def indB (L : List (List Int)) (xs : List Int) : Bool := setB L xs && decide (0 < xs.length)
theorem indB_yes {L : List (List Int)} {xs : List Int} (h : indB L xs = true) : GraphP L ∧ SetP xs L.length ∧ 0 < xs.length ∧ xs.length ≤ 16 := by
  unfold indB setB at h
  simp at h
  have := h.1.2.len (by omega)
  have := h.1.1.1
  exact ⟨h.1.1, h.1.2, h.2, by omega⟩
theorem orderB_yes {L : List (List Int)} {xs : List Int} (h : orderB L xs = true) : GraphP L ∧ OrdP xs L.length ∧ 0 < xs.length ∧ xs.length ≤ 16 := by
  unfold orderB at h
  simp at h
  have := h.1.1
  have := h.2.1
  exact ⟨h.1, h.2, by omega, by omega⟩
theorem indL_small (L : List (List Int)) (xs : List Int) : Small (pickL L xs (indB L xs)) := pickL_small (fun h => (indB_yes h).2.2.2)
theorem renL_small (L : List (List Int)) (xs : List Int) : Small (pickL L xs (orderB L xs)) := pickL_small (fun h => (orderB_yes h).2.2.2)

set_option maxHeartbeats 800000 in
theorem specInduced_any (v v1 : Value) (L : List (List Int)) (xs : List Int) (w : World) (h : GridAt w v L) (h1 : RowAt w v1 xs) : Calls Try.prog 59 #[.agg #[v], v1] w (GaveGB w (pickL L xs (indB L xs)) (indB L xs)) := by
  obtain ⟨a0, c0, rfl⟩ := h.slice
  obtain ⟨a1, c1, rfl⟩ := h1.slice
  have hlm := h1.len
  unfold maxLen at hlm
  have T0 := Lib.hid (Two.start w (.slice a0 L.length c0))
  have HGK : Hid (∀ w', Below w.heap.size w w' → GridAt w' (.slice a0 L.length c0) L) := fun w' hb => h.keep hb
  have HRK : Hid (∀ w', Below w.heap.size w w' → RowAt w' (.slice a1 xs.length c1) xs) := fun w' hb => h1.keep hb
  clear h h1
  go_enter Try.func59, Try.ntmps59
  go_wp2_with fail
  refine (specSetOk_any _ _ _ _ _ (HGK.out _ T0.out.bel) (HRK.out _ T0.out.bel)).mono ?_
  rintro e w1 ⟨rfl, hb1⟩
  have T1 := Lib.hid (T0.out.keep hb1)
  clear hb1 T0
  by_cases hS : setB L xs = true
  · by_cases hl : 0 < xs.length
    · have HI : Hid (indB L xs = true) := by show indB L xs = true; unfold indB; rw [hS, decide_eq_true hl]; rfl
      have he : ((xs.length : Int) == 0) = false := by rw [beq_eq_false_iff_ne]; omega
      have kb := T1.out.arg.1
      rw [hS]
      clear hS
      obtain ⟨hG, hs, _, h16⟩ := indB_yes HI.out
      have HG := Lib.hid hG
      have HS := Lib.hid hs
      clear hG hs
      go_wp2_with fail
      refine (l2Of_any _ _ L xs (pickA L xs) _ (HGK.out _ T1.out.bel) (HRK.out _ T1.out.bel) hl h16 HS.out.inP (pickA_spec HG.out HS.out.inP) (pickA_sym HG.out xs) (pickA_self HG.out xs) (fun i j => pickA_range)).mono ?_
      rintro e w2 ⟨n2, a2, c2, rfl, ho2, hb2⟩
      have T2 := Lib.hid (T1.out.keep hb2)
      have kr := T2.out.res.1
      have kf := T2.out.res.2
      have HO2 := Lib.hid ho2
      clear ho2 hb2 kb
      go_wp2
      refine bodyPost_ret (v := .tuple #[.agg #[.slice a2 n2 c2], .bool true]) (by simp [results, Try.results59, go_sem, T2.out.q0]) rfl (T2.out.yes (B := w1.heap.size) ?_ T1.out.lt HI.out)
      rw [pickL, if_pos HI.out]
      exact HO2.out
    · have HI : Hid (indB L xs = false) := by show indB L xs = false; unfold indB; rw [decide_eq_false hl, Bool.and_false]
      obtain h0 : xs.length = 0 := by omega
      have he : ((xs.length : Int) == 0) = true := by rw [h0]; rfl
      have kr := T1.out.res.1
      have kf := T1.out.res.2
      rw [hS]
      clear hS hl h0
      go_wp2
      exact bodyPost_ret (v := .tuple #[.agg #[.slice none 0 0], .bool false]) (by simp [results, Try.results59, go_sem, T1.out.q0]) rfl (T1.out.no (by rw [pickL, HI.out]; rfl) HI.out)
  · have hS' : setB L xs = false := by simpa using hS
    have HI : Hid (indB L xs = false) := by show indB L xs = false; unfold indB; rw [hS', Bool.false_and]
    have kr := T1.out.res.1
    have kf := T1.out.res.2
    rw [hS']
    clear hS hS'
    go_wp2
    exact bodyPost_ret (v := .tuple #[.agg #[.slice none 0 0], .bool false]) (by simp [results, Try.results59, go_sem, T1.out.q0]) rfl (T1.out.no (by rw [pickL, HI.out]; rfl) HI.out)

set_option maxHeartbeats 800000 in
theorem specRenamed_any (v v1 : Value) (L : List (List Int)) (xs : List Int) (w : World) (h : GridAt w v L) (h1 : RowAt w v1 xs) : Calls Try.prog 61 #[.agg #[v], v1] w (GaveGB w (pickL L xs (orderB L xs)) (orderB L xs)) := by
  obtain ⟨a0, c0, rfl⟩ := h.slice
  obtain ⟨a1, c1, rfl⟩ := h1.slice
  have hlm := h1.len
  unfold maxLen at hlm
  have T0 := Lib.hid (Two.start w (.slice a0 L.length c0))
  have HGK : Hid (∀ w', Below w.heap.size w w' → GridAt w' (.slice a0 L.length c0) L) := fun w' hb => h.keep hb
  have HRK : Hid (∀ w', Below w.heap.size w w' → RowAt w' (.slice a1 xs.length c1) xs) := fun w' hb => h1.keep hb
  clear h h1
  go_enter Try.func61, Try.ntmps61
  go_wp2_with fail
  refine (specOrderOk_any _ _ _ _ _ (HGK.out _ T0.out.bel) (HRK.out _ T0.out.bel)).mono ?_
  rintro e w1 ⟨rfl, hb1⟩
  have T1 := Lib.hid (T0.out.keep hb1)
  clear hb1 T0
  by_cases hS : orderB L xs = true
  · have HI := Lib.hid hS
    have kb := T1.out.arg.1
    rw [hS]
    clear hS
    obtain ⟨hG, hs, hl, h16⟩ := orderB_yes HI.out
    have HG := Lib.hid hG
    have HS := Lib.hid hs
    clear hG hs
    go_wp2_with fail
    refine (l2Of_any _ _ L xs (pickA L xs) _ (HGK.out _ T1.out.bel) (HRK.out _ T1.out.bel) hl h16 HS.out.inP (pickA_spec HG.out HS.out.inP) (pickA_sym HG.out xs) (pickA_self HG.out xs) (fun i j => pickA_range)).mono ?_
    rintro e w2 ⟨n2, a2, c2, rfl, ho2, hb2⟩
    have T2 := Lib.hid (T1.out.keep hb2)
    have kr := T2.out.res.1
    have kf := T2.out.res.2
    have HO2 := Lib.hid ho2
    clear ho2 hb2 kb
    go_wp2
    refine bodyPost_ret (v := .tuple #[.agg #[.slice a2 n2 c2], .bool true]) (by simp [results, Try.results61, go_sem, T2.out.q0]) rfl (T2.out.yes (B := w1.heap.size) ?_ T1.out.lt HI.out)
    rw [pickL, if_pos HI.out]
    exact HO2.out
  · have hS' : orderB L xs = false := by simpa using hS
    have HI := Lib.hid hS'
    have kr := T1.out.res.1
    have kf := T1.out.res.2
    rw [hS']
    clear hS hS'
    go_wp2
    exact bodyPost_ret (v := .tuple #[.agg #[.slice none 0 0], .bool false]) (by simp [results, Try.results61, go_sem, T1.out.q0]) rfl (T1.out.no (by rw [pickL, HI.out]; rfl) HI.out)

set_option maxHeartbeats 1600000 in
theorem implInduced_any (v v1 : Value) (L : List (List Int)) (xs : List Int) (w : World) (h : GridAt w v L) (h1 : RowAt w v1 xs) : Calls Try.prog 60 #[.agg #[v], v1] w (GaveGB w (pickL L xs (indB L xs)) (indB L xs)) := by
  obtain ⟨a0, c0, rfl⟩ := h.slice
  obtain ⟨a1, c1, rfl⟩ := h1.slice
  have hlm := h1.len
  unfold maxLen at hlm
  have T0 := Lib.hid (Two.start w (.slice a0 L.length c0))
  have HGK : Hid (∀ w', Below w.heap.size w w' → GridAt w' (.slice a0 L.length c0) L) := fun w' hb => h.keep hb
  have HRK : Hid (∀ w', Below w.heap.size w w' → RowAt w' (.slice a1 xs.length c1) xs) := fun w' hb => h1.keep hb
  clear h h1
  by_cases hl : 0 < xs.length
  · have he : ((xs.length : Int) == 0) = false := by rw [beq_eq_false_iff_ne]; omega
    go_enter Try.func60, Try.ntmps60
    go_wp2_with fail
    refine (implSetOk_any _ _ _ _ _ (HGK.out _ T0.out.bel) (HRK.out _ T0.out.bel)).mono ?_
    rintro e w1 ⟨rfl, hb1⟩
    have T1 := Lib.hid (T0.out.keep hb1)
    clear hb1 T0
    by_cases hS : setB L xs = true
    · have HI : Hid (indB L xs = true) := by show indB L xs = true; unfold indB; rw [hS, decide_eq_true hl]; rfl
      have kb := T1.out.arg.1
      rw [hS]
      clear hS
      obtain ⟨hG, hs, _, h16⟩ := indB_yes HI.out
      have hz := hG.1
      have HG := Lib.hid hG
      have HS := Lib.hid hs
      clear hG hs
      go_wp2_with fail
      refine (netOf_any _ _ _ (HGK.out _ T1.out.bel)).mono ?_
      rintro e w2 ⟨rfl, hb2⟩
      have T2 := Lib.hid (T1.out.keep hb2)
      have hnb := netBlk_new w2 0 (fun _ => 0)
      rw [decide_eq_true HG.out, netArr_yes HG.out]
      clear hb2 kb
      go_wp2_with (first | (refine wpList_store_net rfl 71 (.tmp 6) (.tmp 21) rfl w2.heap.size L.length (rowM L) rfl rfl Try.sizeNet 0 (fun _ => 0) hnb ?_; intro w3 hp; have HN3 := Lib.hid hp.net; have T3 := Lib.hid (T2.out.put hp); clear hp))
      refine (picked_any w2.heap.size L.length (rowM L) _ xs (pickA L xs) _ HN3.out (fun i => rowM_lt (by omega) (fun v hv => (HG.out.2.1 v hv).1) i) (HRK.out _ T3.out.bel) hl h16 (fun i hi => by have := HS.out.inP i hi; omega) (pickA_impl HG.out HS.out.inP) (pickA_sym HG.out xs) (pickA_self HG.out xs) (fun i j => pickA_range)).mono ?_
      rintro e w4 ⟨n4, a4, c4, rfl, ho4, hb4⟩
      have T4 := Lib.hid (T3.out.keep hb4)
      have kr := T4.out.res.1
      have kf := T4.out.res.2
      have HO4 := Lib.hid ho4
      clear ho4 hb4
      go_wp2
      refine bodyPost_ret (v := .tuple #[.agg #[.slice a4 n4 c4], .bool true]) (by simp [results, Try.results60, go_sem, T4.out.q0]) rfl (T4.out.yes (B := w3.heap.size) ?_ T3.out.lt HI.out)
      rw [pickL, if_pos HI.out]
      exact HO4.out
    · have hS' : setB L xs = false := by simpa using hS
      have HI : Hid (indB L xs = false) := by show indB L xs = false; unfold indB; rw [hS', Bool.false_and]
      have kr := T1.out.res.1
      have kf := T1.out.res.2
      rw [hS']
      clear hS hS'
      go_wp2
      exact bodyPost_ret (v := .tuple #[.agg #[.slice none 0 0], .bool false]) (by simp [results, Try.results60, go_sem, T1.out.q0]) rfl (T1.out.no (by rw [pickL, HI.out]; rfl) HI.out)
  · have HI : Hid (indB L xs = false) := by show indB L xs = false; unfold indB; rw [decide_eq_false hl, Bool.and_false]
    obtain h0 : xs.length = 0 := by omega
    have he : ((xs.length : Int) == 0) = true := by rw [h0]; rfl
    have kr := T0.out.res.1
    have kf := T0.out.res.2
    clear h0 hl
    go_enter Try.func60, Try.ntmps60
    go_wp2
    refine bodyPost_ret (v := .tuple #[.agg #[.slice none 0 0], .bool false]) (by simp [results, Try.results60, go_sem]) rfl ?_
    have e0 : pickL L xs (indB L xs) = [] := by rw [pickL, HI.out]; rfl
    rw [e0, HI.out]
    exact GaveGB.no T0.out.bel

set_option maxHeartbeats 1600000 in
theorem implRenamed_any (v v1 : Value) (L : List (List Int)) (xs : List Int) (w : World) (h : GridAt w v L) (h1 : RowAt w v1 xs) : Calls Try.prog 32 #[.agg #[v], v1] w (GaveGB w (pickL L xs (orderB L xs)) (orderB L xs)) := by
  obtain ⟨a0, c0, rfl⟩ := h.slice
  obtain ⟨a1, c1, rfl⟩ := h1.slice
  have hlm := h1.len
  unfold maxLen at hlm
  have T0 := Lib.hid (Two.start w (.slice a0 L.length c0))
  have HGK : Hid (∀ w', Below w.heap.size w w' → GridAt w' (.slice a0 L.length c0) L) := fun w' hb => h.keep hb
  have HRK : Hid (∀ w', Below w.heap.size w w' → RowAt w' (.slice a1 xs.length c1) xs) := fun w' hb => h1.keep hb
  clear h h1
  go_enter Try.func32, Try.ntmps32
  go_wp2_with fail
  refine (implOrderOk_any _ _ _ _ _ (HGK.out _ T0.out.bel) (HRK.out _ T0.out.bel)).mono ?_
  rintro e w1 ⟨rfl, hb1⟩
  have T1 := Lib.hid (T0.out.keep hb1)
  clear hb1 T0
  by_cases hS : orderB L xs = true
  · have HI := Lib.hid hS
    have kb := T1.out.arg.1
    rw [hS]
    clear hS
    obtain ⟨hG, hs, hl, h16⟩ := orderB_yes HI.out
    have hz := hG.1
    have HG := Lib.hid hG
    have HS := Lib.hid hs
    clear hG hs
    go_wp2_with fail
    refine (netOf_any _ _ _ (HGK.out _ T1.out.bel)).mono ?_
    rintro e w2 ⟨rfl, hb2⟩
    have T2 := Lib.hid (T1.out.keep hb2)
    have hnb := netBlk_new w2 0 (fun _ => 0)
    rw [decide_eq_true HG.out, netArr_yes HG.out]
    clear hb2 kb
    go_wp2_with (first | (refine wpList_store_net rfl 71 (.tmp 6) (.tmp 16) rfl w2.heap.size L.length (rowM L) rfl rfl Try.sizeNet 0 (fun _ => 0) hnb ?_; intro w3 hp; have HN3 := Lib.hid hp.net; have T3 := Lib.hid (T2.out.put hp); clear hp))
    refine (picked_any w2.heap.size L.length (rowM L) _ xs (pickA L xs) _ HN3.out (fun i => rowM_lt (by omega) (fun v hv => (HG.out.2.1 v hv).1) i) (HRK.out _ T3.out.bel) hl h16 (fun i hi => by have := HS.out.inP i hi; omega) (pickA_impl HG.out HS.out.inP) (pickA_sym HG.out xs) (pickA_self HG.out xs) (fun i j => pickA_range)).mono ?_
    rintro e w4 ⟨n4, a4, c4, rfl, ho4, hb4⟩
    have T4 := Lib.hid (T3.out.keep hb4)
    have kr := T4.out.res.1
    have kf := T4.out.res.2
    have HO4 := Lib.hid ho4
    clear ho4 hb4
    go_wp2
    refine bodyPost_ret (v := .tuple #[.agg #[.slice a4 n4 c4], .bool true]) (by simp [results, Try.results32, go_sem, T4.out.q0]) rfl (T4.out.yes (B := w3.heap.size) ?_ T3.out.lt HI.out)
    rw [pickL, if_pos HI.out]
    exact HO4.out
  · have hS' : orderB L xs = false := by simpa using hS
    have HI := Lib.hid hS'
    have kr := T1.out.res.1
    have kf := T1.out.res.2
    rw [hS']
    clear hS hS'
    go_wp2
    exact bodyPost_ret (v := .tuple #[.agg #[.slice none 0 0], .bool false]) (by simp [results, Try.results32, go_sem, T1.out.q0]) rfl (T1.out.no (by rw [pickL, HI.out]; rfl) HI.out)

end Go.Proofs.Ytikfbfclbmlopaa
