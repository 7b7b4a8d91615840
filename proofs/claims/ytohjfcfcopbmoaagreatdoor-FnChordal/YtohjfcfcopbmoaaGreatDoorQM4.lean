/- The texts M4, M5, M6, M7, M8, joined. -/
import Derived.Test.YtohjfcfcopbmoaaGreatDoorQM1
import Derived.Test.YtohjfcfcopbmoaaGreatDoorQC1
import Derived.Deep.RegionHeld3

/- Walks: these vertices of a graph, in this order: the model's and the program's. -/
namespace Go.Proofs.YtohjfcfcopbmoaaGreatDoor
open Go.RowKit

end Go.Proofs.YtohjfcfcopbmoaaGreatDoor

/- Walks: the program's graph of picked vertices. -/
namespace Go.Proofs.YtohjfcfcopbmoaaGreatDoor
open Go.RowKit

/-- Which pairs have been looked at, either way: all with one below a, and of a those with one below b; they are near by R. -/
def fullA (R : Nat → Nat → Bool) (a b i j : Nat) : Bool := decide (i < a ∨ j < a ∨ (i = a ∧ j < b) ∨ (j = a ∧ i < b)) && R i j
theorem fullA_link {R : Nat → Nat → Bool} {a b : Nat} (h1 : R a b = true) (h2 : R b a = true) (i j : Nat) : fullA R a (b + 1) i j = linkA (fullA R a b) a b i j := by
  unfold linkA
  by_cases e1 : i = a ∧ j = b
  · obtain ⟨rfl, rfl⟩ := e1
    have : fullA R i (j + 1) i j = true := by unfold fullA; rw [h1, Bool.and_true, decide_eq_true_iff]; omega
    rw [this]; simp
  · by_cases e2 : i = b ∧ j = a
    · obtain ⟨rfl, rfl⟩ := e2
      have : fullA R j (i + 1) i j = true := by unfold fullA; rw [h2, Bool.and_true, decide_eq_true_iff]; omega
      rw [this]; simp
    · have c1 : (i == a && j == b) = false := by cases h : (i == a && j == b) with | false => rfl | true => (simp at h; exact absurd h e1)
      have c2 : (i == b && j == a) = false := by cases h : (i == b && j == a) with | false => rfl | true => (simp at h; exact absurd h e2)
      rw [c1, c2, Bool.or_false, Bool.or_false]
      unfold fullA
      congr 1
      rw [Bool.eq_iff_iff, decide_eq_true_iff, decide_eq_true_iff]
      omega
theorem fullA_skip {R : Nat → Nat → Bool} {a b : Nat} (h1 : R a b = false) (h2 : R b a = false) (i j : Nat) : fullA R a (b + 1) i j = fullA R a b i j := by
  unfold fullA
  by_cases e1 : i = a ∧ j = b
  · obtain ⟨rfl, rfl⟩ := e1; rw [h1, Bool.and_false, Bool.and_false]
  · by_cases e2 : i = b ∧ j = a
    · obtain ⟨rfl, rfl⟩ := e2; rw [h2, Bool.and_false, Bool.and_false]
    · congr 1
      rw [Bool.eq_iff_iff, decide_eq_true_iff, decide_eq_true_iff]
      omega
theorem fullA_next {R : Nat → Nat → Bool} {m : Nat} (hr : ∀ i j, R i j = true → i < m ∧ j < m) (a i j : Nat) : fullA R a m i j = fullA R (a + 1) 0 i j := by
  unfold fullA
  cases h : R i j with
  | false => rw [Bool.and_false, Bool.and_false]
  | true =>
    have := hr i j h
    rw [Bool.and_true, Bool.and_true, Bool.eq_iff_iff, decide_eq_true_iff, decide_eq_true_iff]
    omega
theorem fullA_zero (R : Nat → Nat → Bool) (i j : Nat) : fullA R 0 0 i j = false := by
  unfold fullA
  rw [decide_eq_false (by omega), Bool.false_and]
theorem fullA_all {R : Nat → Nat → Bool} {m : Nat} (hr : ∀ i j, R i j = true → i < m ∧ j < m) (i j : Nat) : fullA R m 0 i j = R i j := by
  unfold fullA
  cases h : R i j with
  | false => rw [Bool.and_false]
  | true => rw [Bool.and_true, decide_eq_true_iff]; exact Or.inl (hr i j h).1

set_option maxHeartbeats 1600000 in
theorem picked_any (g n : Nat) (M : Nat → Nat) (v1 : Value) (xs : List Int) (R : Nat → Nat → Bool) (w : World) (h : NetBlk 83 w g n M) (hM : ∀ i, M i < 65536) (h1 : RowAt w v1 xs) (h0 : 0 < xs.length) (hl16 : xs.length ≤ 16)
    (hx : ∀ i, i < xs.length → 0 ≤ nth xs i ∧ nth xs i < 16)
    (hR : ∀ i j, i < xs.length → j < xs.length → R i j = hasM (M (nth xs i).toNat) (nth xs j)) (hsym : ∀ i j, R i j = R j i) (hloop : ∀ i, R i i = false) (hrange : ∀ i j, R i j = true → i < xs.length ∧ j < xs.length) :
    Calls Tryz.prog 249 #[.pointer (some ⟨g, 0, none⟩), v1] w (GaveGraph w (adjL xs.length R)) := by
  obtain ⟨b, o, c, rfl, l1, l2, hc⟩ := h1.pos h0
  have hlm := h1.len
  unfold maxLen at hlm
  have hg := h.lt
  have b0 : BoxAt (w.alloc (.cells #[.slice none 0 0] 26)) w.heap.size (.slice none 0 0) := BoxAt.new _ _ _
  have hb0 : Below w.heap.size w (w.alloc (.cells #[.slice none 0 0] 26)) := (Below.refl _ _).alloc (Nat.le_refl _) _
  have g0 : NetBlk 83 ((w.alloc (.cells #[.slice none 0 0] 26)).alloc (.cells (netArr 0 (fun _ => 0)) 83)) (w.heap.size + 1) 0 (fun _ => 0) := by
    have := heap_alloc_new (w.alloc (.cells #[.slice none 0 0] 26)) (.cells (netArr 0 (fun _ => 0)) 83)
    rwa [size_alloc1] at this
  have HB1 : Hid (Below w.heap.size w ((w.alloc (.cells #[.slice none 0 0] 26)).alloc (.cells (netArr 0 (fun _ => 0)) 83))) := hb0.alloc hb0.size _
  have HBX1 : Hid (BoxAt ((w.alloc (.cells #[.slice none 0 0] 26)).alloc (.cells (netArr 0 (fun _ => 0)) 83)) w.heap.size (.slice none 0 0)) := b0.keep ((Below.refl _ _).alloc (Nat.le_refl _) _)
  have HCK : Hid (∀ w', Below w.heap.size w w' → ∀ i, i < xs.length → w'.cell? ⟨b, o + i, none⟩ = some (.int .i64 (nth xs i))) := fun w' hb i hi => cell_keep hb (hc i hi)
  have HNK : Hid (∀ w', Below w.heap.size w w' → NetBlk 83 w' g n M) := fun w' hb => h.keep hb
  have HM := Lib.hid hM
  have HX := Lib.hid hx
  have HR := Lib.hid hR
  have HSY := Lib.hid hsym
  have HLO := Lib.hid hloop
  have HRA := Lib.hid hrange
  clear h hM h1 hc hx hR hsym hloop hrange b0 hb0
  go_enter Tryz.func249, Tryz.ntmps249
  go_wp2_with (refine wpList_store_net rfl 83 (.tmp 5) (.tmp 12) rfl (w.heap.size + 1) xs.length (fun _ => 0) rfl rfl Tryz.sizeNet 0 (fun _ => 0) g0 ?_; intro w3 hp; have HPU : Hid (NetBlk 83 w3 (w.heap.size + 1) xs.length (fun _ => 0) ∧ BoxAt w3 w.heap.size (.slice none 0 0) ∧ Below w.heap.size w w3) := ⟨hp.net, HBX1.out.keepB hp.below (by omega), HB1.out.trans (hp.below.mono (by omega))⟩; clear hp g0)
  go_loopw [15] (fun i wr => ∃ k : Nat, k ≤ xs.length ∧ i = .int .i64 k ∧ NetBlk 83 wr (w.heap.size + 1) xs.length (fun i => pm (fullA R k 0 i)) ∧ BoxAt wr w.heap.size (.slice none 0 0) ∧ Below w.heap.size w wr) (fun i _ => xs.length - (intOf i).toNat)
  case atStart => exact ⟨0, Nat.zero_le _, rfl, HPU.out.1.congr rfl (fun i _ => by rw [pm_congr (fun j _ => fullA_zero R i j), pm_false]), HPU.out.2.1, HPU.out.2.2⟩
  case round =>
    obtain ⟨k, hk, rfl, hn, hbx, hb⟩ := hrel
    have HN := Lib.hid hn
    have HBX := Lib.hid hbx
    have HB := Lib.hid hb
    clear hn hbx HPU
    by_cases hlt : k < xs.length
    · have kk := HCK.out _ hb k hlt
      have hxk := HX.out k hlt
      obtain ⟨u, hu⟩ : ∃ u : Nat, nth xs k = (u : Int) := ⟨(nth xs k).toNat, by omega⟩
      rw [hu] at kk
      have HU := Lib.hid hu
      have hu16 : u < 16 := by omega
      have hu16' : (u : Int) < 16 := by omega
      clear hb hxk hu
      go_wp2_with fail
      go_loopw [22] (fun i wr => ∃ q : Nat, q ≤ xs.length ∧ i = .int .i64 q ∧ NetBlk 83 wr (w.heap.size + 1) xs.length (fun i => pm (fullA R k q i)) ∧ BoxAt wr w.heap.size (.slice none 0 0) ∧ Below w.heap.size w wr) (fun i _ => xs.length - (intOf i).toNat)
      case atStart => exact ⟨0, Nat.zero_le _, rfl, HN.out, HBX.out, HB.out⟩
      case round =>
        rename World => w4
        obtain ⟨q, hq, rfl, hn, hbx, hb⟩ := hrel
        have HN4 := Lib.hid hn
        have HBX4 := Lib.hid hbx
        have HB4 := Lib.hid hb
        clear hn hbx kk
        by_cases hql : q < xs.length
        · have kq := HCK.out _ hb q hql
          have km := (HNK.out _ hb).at.2 u hu16
          have HRQ : Hid (R k q = hasM (M u) (nth xs q)) := by show R k q = _; rw [HR.out k q hlt hql, HU.out, Int.toNat_natCast]
          clear hb
          go_wp2_with fail
          refine (has_any (M u) _ _ (HM.out u)).mono ?_
          rintro e w' ⟨rfl, rfl⟩
          rw [← HRQ.out]
          by_cases hh : R k q = true
          · have r2 : R q k = true := by rw [HSY.out]; exact hh
            have hkq : k ≠ q := by intro e; subst e; rw [HLO.out] at hh; cases hh
            have HS : Hid (∀ i j, fullA R k (q + 1) i j = linkA (fullA R k q) k q i j) := fun i j => fullA_link hh r2 i j
            rw [hh]
            clear hh r2 km kq
            go_wp2_with fail
            refine (link_any (w.heap.size + 1) xs.length k q (fun i => pm (fullA R k q i)) _ HN4.out (fun i => pm_lt _) (by omega) (by omega) hkq).mono ?_
            rintro e w6 ⟨rfl, hp6⟩
            have HN6 : Hid (NetBlk 83 w6 (w.heap.size + 1) xs.length (fun i => pm (fullA R k (q + 1) i))) := hp6.net.congr rfl (fun i hi => by rw [linkM_pm _ (by omega) (by omega) hkq]; exact pm_congr (fun j _ => (HS.out i j).symm))
            have BX6 : Hid (BoxAt w6 w.heap.size (.slice none 0 0)) := HBX4.out.keepB hp6.below (by omega)
            have HB6 : Hid (Below w.heap.size w w6) := HB4.out.trans (hp6.below.mono (by omega))
            clear hp6
            go_wp2
            go_roundw
            case rel => exact ⟨q + 1, by omega, by go_num, HN6.out, BX6.out, HB6.out⟩
            case measure => simp [intOf]; omega
          · have hh' : R k q = false := by simpa using hh
            have r2 : R q k = false := by rw [HSY.out]; exact hh'
            have HS : Hid (∀ i j, fullA R k (q + 1) i j = fullA R k q i j) := fun i j => fullA_skip hh' r2 i j
            rw [hh']
            clear hh hh' r2 km kq
            go_wp2
            go_roundw
            case rel => exact ⟨q + 1, by omega, by go_num, HN4.out.congr rfl (fun i _ => pm_congr (fun j _ => (HS.out i j).symm)), HBX4.out, HB4.out⟩
            case measure => simp [intOf]; omega
        · obtain rfl : q = xs.length := by omega
          clear hb
          go_wp2
          go_roundw
          case rel => exact ⟨k + 1, by omega, by go_num, HN4.out.congr rfl (fun i _ => pm_congr (fun j _ => fullA_next HRA.out k i j)), HBX4.out, HB4.out⟩
          case measure => simp [intOf]; omega
    · obtain rfl : k = xs.length := by omega
      clear hb
      go_wp2_with fail
      refine (graph_any (w.heap.size + 1) xs.length _ _ HN.out (fun i => pm_lt _) h0 hl16).mono ?_
      rintro e w7 ⟨n7, a7, c7, rfl, ho7, hb7⟩
      have e7 : maskL xs.length (fun i => pm (fullA R xs.length 0 i)) = adjL xs.length R := adjL_congr (A := fullA R xs.length 0) (fun i _ j _ => fullA_all HRA.out i j)
      rw [e7] at ho7
      have kr := (HBX.out.keep hb7).1
      have kf := (HBX.out.keep hb7).2
      have hlt := HBX.out.lt
      have HO7 := Lib.hid ho7
      have HB7 : Hid (Below w.heap.size w w7) := HB.out.trans (hb7.mono HB.out.size)
      clear ho7 hb7 e7
      go_wp2
      have q0 : (w7.setCell ⟨w.heap.size, 0, none⟩ (.slice a7 n7 c7)).cell? ⟨w.heap.size, 0, none⟩ = some (.slice a7 n7 c7) := cell_set_same _ kr
      refine bodyPost_ret (v := .agg #[.slice a7 n7 c7]) (by simp [results, Tryz.results249, go_sem, q0]) rfl ⟨n7, a7, c7, rfl, ?_, HB7.out.setCell (by simp) _⟩
      exact (HO7.out.setBelow (by simp; omega) _).mono (by omega)

end Go.Proofs.YtohjfcfcopbmoaaGreatDoor

/- Walks: the subgraph of a set, the graph under other names. -/
namespace Go.Proofs.YtohjfcfcopbmoaaGreatDoor
open Go.RowKit

/-- The boxes of a function of one graph: its graph's and its result's. -/
structure Two (w0 : World) (v : Value) (w : World) : Prop where
  arg : BoxAt w w0.heap.size v
  res : BoxAt w (w0.heap.size + 1) (.slice none 0 0)
  bel : Below w0.heap.size w0 w
theorem Two.start (w : World) (v : Value) : Two w v ((w.alloc (.cells #[v] 26)).alloc (.cells #[.slice none 0 0] 26)) :=
  ⟨(BoxAt.new w v _).keep ((Below.refl _ _).alloc (Nat.le_refl _) _), by have := BoxAt.new (w.alloc (.cells #[v] 26)) (.slice none 0 0) 26; rwa [size_alloc1] at this, ((Below.refl _ _).alloc (Nat.le_refl _) _).alloc (by simp) _⟩
theorem Two.keep {w0 : World} {v : Value} {w w' : World} (h : Two w0 v w) (hb : Below w.heap.size w w') : Two w0 v w' :=
  ⟨h.arg.keep hb, h.res.keep hb, h.bel.trans (hb.mono h.bel.size)⟩
theorem Two.put {T : TypeId} {w0 : World} {v : Value} {w w' : World} {o : Obj} {n : Nat} {M : Nat → Nat} (h : Two w0 v w) (hp : NetPut T (w.alloc o) w' w.heap.size n M) : Two w0 v w' := h.keep hp.since
theorem Two.lt {w0 : World} {v : Value} {w : World} (h : Two w0 v w) : w0.heap.size + 1 < w.heap.size := h.res.lt
theorem Two.q0 {w0 : World} {v : Value} {w : World} (h : Two w0 v w) (u : Value) : (w.setCell ⟨w0.heap.size + 1, 0, none⟩ u).cell? ⟨w0.heap.size + 1, 0, none⟩ = some u := cell_set_same _ h.res.1
theorem Two.yes {w0 : World} {v : Value} {w : World} (h : Two w0 v w) {R : List (List Int)} {B m c : Nat} {a : Option Addr} {ok : Bool} (ho : OwnGrid 2 33 w B (.slice a m c) R) (hB : w0.heap.size + 1 < B) (hok : ok = true) :
    GaveGB w0 R ok (.returned (.tuple #[.agg #[.slice a m c], .bool true])) (w.setCell ⟨w0.heap.size + 1, 0, none⟩ (.slice a m c)) :=
  ⟨m, a, c, by rw [hok], (ho.setBelow hB _).mono (by omega), h.bel.setCell (by simp) _⟩
theorem Two.no {w0 : World} {v : Value} {w : World} (h : Two w0 v w) {R : List (List Int)} {ok : Bool} (hR : R = []) (hok : ok = false) :
    GaveGB w0 R ok (.returned (.tuple #[.agg #[.slice none 0 0], .bool false])) (w.setCell ⟨w0.heap.size + 1, 0, none⟩ (.slice none 0 0)) := by
  rw [hR, hok]
  exact GaveGB.no (h.bel.setCell (by exact Nat.le_succ _) _)

/-- Who is near whom among picked vertices. -/
def pickA (L : List (List Int)) (xs : List Int) (i j : Nat) : Bool := decide (i < xs.length) && decide (j < xs.length) && adjB L (nth xs i).toNat (nth xs j).toNat
theorem pickA_sym {L : List (List Int)} (hG : GraphP L) (xs : List Int) (i j : Nat) : pickA L xs i j = pickA L xs j i := by
  unfold pickA
  rw [adjB_sym hG]
  cases decide (i < xs.length) <;> cases decide (j < xs.length) <;> rfl
theorem pickA_self {L : List (List Int)} (hG : GraphP L) (xs : List Int) (i : Nat) : pickA L xs i i = false := by
  unfold pickA
  rw [adjB_self hG, Bool.and_false]
theorem pickA_range {L : List (List Int)} {xs : List Int} {i j : Nat} (h : pickA L xs i j = true) : i < xs.length ∧ j < xs.length := by
  unfold pickA at h
  simp at h
  exact h.1
/-- The list names vertices of the graph. -/
def InP (L : List (List Int)) (xs : List Int) : Prop := ∀ i, i < xs.length → 0 ≤ nth xs i ∧ nth xs i < (L.length : Int)
theorem pickA_spec {L : List (List Int)} {xs : List Int} (hG : GraphP L) (hx : InP L xs) : ∀ k i, k < i → i < xs.length → pickA L xs k i = hasB (nthR L (nth xs i).toNat) (nth xs k) := by
  intro k i hki hi
  have h1 := hx k (by omega)
  have h2 := hx i hi
  have hz := hG.1
  unfold pickA
  rw [decide_eq_true hi, decide_eq_true (by omega : k < xs.length), adjB_sym hG, ← adjB_has hG (by omega) (by omega), Int.toNat_of_nonneg h1.1]
  rfl
theorem pickA_impl {L : List (List Int)} {xs : List Int} (hG : GraphP L) (hx : InP L xs) : ∀ i j, i < xs.length → j < xs.length → pickA L xs i j = hasM (rowM L (nth xs i).toNat) (nth xs j) := by
  intro i j hi hj
  have h1 := hx j hj
  have hz := hG.1
  unfold pickA
  rw [decide_eq_true hi, decide_eq_true hj, ← adjB_hasM _ (by omega), Int.toNat_of_nonneg h1.1]
  rfl
theorem SetP.inP {L : List (List Int)} {xs : List Int} (h : SetP xs L.length) : InP L xs := fun i hi => ⟨(h i hi).1, by have := (h i hi).2.1; omega⟩
theorem OrdP.inP {L : List (List Int)} {xs : List Int} (h : OrdP xs L.length) : InP L xs := fun i hi => by
  have := (h.2 i hi).1
  have : 0 ≤ nth xs i ∧ nth xs i ≤ (L.length : Int) - 1 := by simpa [inB] using this
  omega

/-- The graph of picked vertices, where there is one. -/
def pickL (L : List (List Int)) (xs : List Int) (ok : Bool) : List (List Int) := if ok = true then adjL xs.length (pickA L xs) else []
theorem pickL_small {L : List (List Int)} {xs : List Int} {ok : Bool} (h : ok = true → xs.length ≤ 16) : Small (pickL L xs ok) := by
  unfold pickL
  split
  · rename_i h1
    exact adjL_small _ _ (h h1)
  · exact ⟨by simp, fun i hi => absurd hi (by simp)⟩
/-- May this subgraph be? -/
def indB (L : List (List Int)) (xs : List Int) : Bool := setB L xs && decide (0 < xs.length)
theorem indB_yes {L : List (List Int)} {xs : List Int} (h : indB L xs = true) : GraphP L ∧ SetP xs L.length ∧ 0 < xs.length ∧ xs.length ≤ 16 := by
  unfold indB setB at h
  simp at h
  have := h.1.2.len (by omega)
  have := h.1.1.1
  exact ⟨h.1.1, h.1.2, h.2, by omega⟩
theorem orderB_yes {L : List (List Int)} {xs : List Int} (h : orderB L xs = true) : GraphP L ∧ OrdP xs L.length ∧ 0 < xs.length ∧ xs.length ≤ 16 := by
  unfold orderB at h
  simp at h
  have := h.1.1
  have := h.2.1
  exact ⟨h.1, h.2, by omega, by omega⟩
theorem indL_small (L : List (List Int)) (xs : List Int) : Small (pickL L xs (indB L xs)) := pickL_small (fun h => (indB_yes h).2.2.2)
theorem renL_small (L : List (List Int)) (xs : List Int) : Small (pickL L xs (orderB L xs)) := pickL_small (fun h => (orderB_yes h).2.2.2)

end Go.Proofs.YtohjfcfcopbmoaaGreatDoor

/- Walks: all vertices, all but one; a vertex cut. -/
namespace Go.Proofs.YtohjfcfcopbmoaaGreatDoor
open Go.RowKit

/-- The numbers below n. -/
def allL (n : Nat) : List Int := (List.range n).map (fun i : Nat => (i : Int))
theorem allL_len (n : Nat) : (allL n).length = n := by simp [allL]
theorem allL_succ (n : Nat) : allL (n + 1) = allL n ++ [(n : Int)] := by simp [allL, List.range_succ]
theorem allL_mem (n : Nat) (z : Int) : z ∈ allL n ↔ ∃ i : Nat, i < n ∧ (i : Int) = z := by simp [allL]
theorem allL_pair (n : Nat) : (allL n).Pairwise (· < ·) := by
  unfold allL
  rw [List.pairwise_map]
  exact List.Pairwise.imp (fun h => by omega) List.pairwise_lt_range

set_option maxHeartbeats 800000 in
theorem l1All_any (n : Nat) (w : World) (hn : n ≤ 16) : Calls Tryz.prog 140 #[.int .i64 (n : Int)] w (GaveRow w (allL n)) := by
  obtain ⟨i0, hi, hz0, hz1, hz2⟩ := info_parts Tryz.infoI
  have hown0 : (w.alloc (.cells #[] 2)).ownsRow w.heap.size 2 1 (.slice (some ⟨w.heap.size, 0, none⟩) 0 0) 0 [] := World.ownsRow_lit w #[] 0 (Nat.le_refl _) (Nat.zero_le _) rfl
  have HO0 := Lib.hid hown0
  clear hown0
  go_enter Tryz.func140, Tryz.ntmps140
  go_wp2_with fail
  go_loopw [3, 4] (fun s i wr => ∃ k : Nat, k ≤ n ∧ i = .int .i64 k ∧ wr.ownsRow w.heap.size 2 1 s (allL k).length ((allL k).map (Value.int .i64)) ∧ Below w.heap.size w wr ∧ w.heap.size ≤ wr.heap.size) (fun _ i _ => n - (intOf i).toNat)
  case atStart => exact ⟨0, Nat.zero_le _, rfl, HO0.out, (Below.refl _ _).alloc (Nat.le_refl _) _, by simp⟩
  case round =>
    obtain ⟨k, hk, rfl, ho, hb, hz⟩ := hrel
    have HO := Lib.hid ho
    have HB := Lib.hid hb
    have hll := allL_len k
    have HLL := Lib.hid hll
    clear ho hb hll
    by_cases hlt : k < n
    · go_wp2_with (at_builtin; refine wpList_append_own _ rfl (.tmp 11) (.tmp 13) 33 rfl w.heap.size 2 i0 (.int .i64 0) 1 8 Tryz.underlying33 hi hz0 hz1 hz2 rfl (by decide) _ _ _ rfl (HO.out.alloc _) ⟨wr.heap.size, 0, none⟩ 1 1 [.int .i64 (k : Int)] rfl rfl ?d1 ?d2 ?d3 ?d4 ?d5 ?_)
      case d1 =>
        intro j u hj
        match j, hj with
        | 0, hj => simp at hj; subst hj; simp [Addr.add]
      case d2 => intro u hu; simp at hu; subst hu; rfl
      case d3 => rw [HLL.out]; unfold maxLen; omega
      case d4 => rw [HLL.out]; omega
      case d5 => simp; omega
      intro v4 w4 hown4 hgrow4 _
      have hb4 : Below w.heap.size w w4 := (HB.out.alloc hz _).grown hgrow4 (by simp; omega) (fun j hj => (HO.out.lt j hj).1)
      have HO4 := Lib.hid hown4
      have HB4 := Lib.hid hb4
      clear hown4 hgrow4 hb4
      go_wp2
      go_roundw
      case rel =>
        refine ⟨k + 1, by omega, by go_num, ?_, HB4.out, HB4.out.size⟩
        rw [allL_succ]
        simpa using HO4.out
      case measure => simp [intOf]; omega
    · obtain rfl : k = n := by omega
      have hro : OwnRow 2 wr w.heap.size _ (allL k) := OwnRow.of_ownsRow (n := (allL k).length) HO.out (by rw [HLL.out]; unfold maxLen; omega) (fun x hx => by obtain ⟨i, h1, rfl⟩ := (allL_mem k x).1 hx; unfold I64; omega)
      obtain ⟨a4, c4, e4⟩ := hro.row.slice
      have HP : Hid (GaveRow w (allL k) (.returned (.slice a4 (allL k).length c4)) wr) := ⟨_, a4, c4, rfl, by rw [← e4]; exact hro, HB.out⟩
      rw [e4]
      clear hro e4
      go_wp2
      go_ret
      exact HP.out

/-- A list without x. -/
def wo (xs : List Int) (x : Int) : List Int := xs.filter (fun y => y != x)
theorem wo_len (xs : List Int) (x : Int) : (wo xs x).length ≤ xs.length := List.length_filter_le _ _
theorem wo_mem (xs : List Int) (x z : Int) : z ∈ wo xs x ↔ z ∈ xs ∧ z ≠ x := by simp [wo]
theorem wo_take {xs : List Int} {k : Nat} (x : Int) (hk : k < xs.length) : wo (xs.take (k + 1)) x = wo (xs.take k) x ++ if (nth xs k != x) = true then [nth xs k] else [] := by
  rw [List.take_succ_eq_append_getElem hk, nth_eq hk]
  unfold wo
  rw [List.filter_append]
  congr 1
  by_cases h : (xs[k] != x) = true
  · rw [if_pos h]; simp only [List.filter_cons, h, if_true, List.filter_nil]
  · rw [if_neg h]; simp only [List.filter_cons, h, List.filter_nil]; rfl

/-- The vertices below n but x, rising. -/
def restL (n x : Nat) : List Int := listM (clrM (2 ^ n - 1) (2 ^ x))
theorem restL_mem {n x : Nat} (hn : n ≤ 16) (hx : x < n) (z : Int) : z ∈ restL n x ↔ ∃ i : Nat, i < n ∧ i ≠ x ∧ (i : Int) = z := by
  unfold restL
  rw [listM_mem]
  constructor
  · rintro ⟨i, h1, h2, h3⟩
    rw [clrM_bit (whole_lt hn) (pow_lt16 (by omega)), whole_bit, Nat.testBit_two_pow] at h2
    simp at h2
    exact ⟨i, h2.1, fun e => h2.2 e.symm, h3⟩
  · rintro ⟨i, h1, h2, h3⟩
    refine ⟨i, by omega, ?_, h3⟩
    rw [clrM_bit (whole_lt hn) (pow_lt16 (by omega)), whole_bit, Nat.testBit_two_pow]
    simp
    exact ⟨h1, fun e => h2 e.symm⟩
theorem wo_all {n x : Nat} (hn : n ≤ 16) (hx : x < n) : wo (allL n) (x : Int) = restL n x := by
  refine sets_eq (SetP.mk ?_ ?_) (listM_set _) (fun z => ?_)
  · exact (allL_pair n).sublist List.filter_sublist
  · intro z hz
    obtain ⟨i, h1, rfl⟩ := (allL_mem n z).1 ((wo_mem _ _ _).1 hz).1
    omega
  · rw [wo_mem, allL_mem, restL_mem hn hx]
    constructor
    · rintro ⟨⟨i, h1, rfl⟩, h2⟩; exact ⟨i, h1, fun e => h2 (by rw [e]), rfl⟩
    · rintro ⟨i, h1, h2, rfl⟩; exact ⟨⟨i, h1, rfl⟩, fun e => h2 (by omega)⟩
theorem restL_len (n x : Nat) : (restL n x).length ≤ 16 := listM_len _
theorem restL_pos {n x : Nat} (hn : n ≤ 16) (hx : x < n) (h2 : 2 ≤ n) : 0 < (restL n x).length := by
  have : ((if x = 0 then 1 else 0 : Nat) : Int) ∈ restL n x := by
    rw [restL_mem hn hx]
    refine ⟨if x = 0 then 1 else 0, ?_, ?_, rfl⟩
    · split <;> omega
    · split <;> omega
  exact List.length_pos_of_mem this
theorem restL_in {n x : Nat} (hn : n ≤ 16) (hx : x < n) (i : Nat) (hi : i < (restL n x).length) : 0 ≤ nth (restL n x) i ∧ nth (restL n x) i < (n : Int) := by
  obtain ⟨j, h1, _, h3⟩ := (restL_mem hn hx _).1 (nth_mem hi)
  rw [← h3]; omega

end Go.Proofs.YtohjfcfcopbmoaaGreatDoor

/- Walks: a vertex cut. -/
namespace Go.Proofs.YtohjfcfcopbmoaaGreatDoor
open Go.RowKit

/-- May this vertex be cut? -/
def cutB (L : List (List Int)) (x : Int) : Bool := decide (GraphP L) && inB x 0 ((L.length : Int) - 1) && !((L.length : Int) == 1)
theorem cutB_yes {L : List (List Int)} {x : Int} (h : cutB L x = true) : GraphP L ∧ 0 ≤ x ∧ x < (L.length : Int) ∧ 2 ≤ L.length ∧ L.length ≤ 16 := by
  unfold cutB inB at h
  simp at h
  have := h.1.1.1
  exact ⟨h.1.1, h.1.2.1, by omega, by omega, by omega⟩
/-- The graph without the vertex. -/
def cutL (L : List (List Int)) (x : Int) : List (List Int) := pickL L (restL L.length x.toNat) (cutB L x)
theorem cutL_small (L : List (List Int)) (x : Int) : Small (cutL L x) := pickL_small (fun _ => restL_len _ _)
theorem cutL_no {L : List (List Int)} {x : Int} (h : cutB L x = false) : cutL L x = [] := by rw [cutL, h]; rfl

set_option maxHeartbeats 1600000 in
theorem without_any (g n x : Nat) (M : Nat → Nat) (R : Nat → Nat → Bool) (w : World) (h : NetBlk 83 w g n M) (hM : ∀ i, M i < 65536) (hn : n ≤ 16) (hx : x < n) (h2 : 2 ≤ n)
    (hR : ∀ i j, i < (restL n x).length → j < (restL n x).length → R i j = hasM (M (nth (restL n x) i).toNat) (nth (restL n x) j)) (hsym : ∀ i j, R i j = R j i) (hloop : ∀ i, R i i = false) (hrange : ∀ i j, R i j = true → i < (restL n x).length ∧ j < (restL n x).length) :
    Calls Tryz.prog 207 #[.pointer (some ⟨g, 0, none⟩), .int .i64 (x : Int)] w (GaveGraph w (adjL (restL n x).length R)) := by
  have hg := h.lt
  have kn := h.at.1
  have hx16 : (x : Int) < 16 := by omega
  have b0 : BoxAt (w.alloc (.cells #[.slice none 0 0] 26)) w.heap.size (.slice none 0 0) := BoxAt.new _ _ _
  have hb0 : Below w.heap.size w (w.alloc (.cells #[.slice none 0 0] 26)) := (Below.refl _ _).alloc (Nat.le_refl _) _
  have kn0 := cell_keep hb0 kn
  have BX0 := Lib.hid b0
  have HB0 := Lib.hid hb0
  have H := Lib.hid h
  have HM := Lib.hid hM
  have HR := Lib.hid hR
  have HSY := Lib.hid hsym
  have HLO := Lib.hid hloop
  have HRA := Lib.hid hrange
  have hw := whole_lt hn
  have HRL : Hid (listM (clrM (2 ^ n - 1) (2 ^ x)) = restL n x) := rfl
  clear h hM hR hsym hloop hrange b0 hb0 kn
  go_enter Tryz.func207, Tryz.ntmps207
  go_wp2_with fail
  refine (wholeMask_any n _ hn).mono ?_
  rintro e w1 ⟨rfl, rfl⟩
  have hb1 : Below w.heap.size w ((w.alloc (.cells #[.slice none 0 0] 26)).alloc (.cells #[.int .u32 ((2 ^ n - 1 : Nat) : Int)] 80)) := HB0.out.alloc (by simp) _
  have bx1 : BoxAt ((w.alloc (.cells #[.slice none 0 0] 26)).alloc (.cells #[.int .u32 ((2 ^ n - 1 : Nat) : Int)] 80)) w.heap.size (.slice none 0 0) := BX0.out.keep ((Below.refl _ _).alloc (Nat.le_refl _) _)
  have bm1 : BoxAt ((w.alloc (.cells #[.slice none 0 0] 26)).alloc (.cells #[.int .u32 ((2 ^ n - 1 : Nat) : Int)] 80)) (w.heap.size + 1) (.int .u32 ((2 ^ n - 1 : Nat) : Int)) := by
    have := BoxAt.new (w.alloc (.cells #[.slice none 0 0] 26)) (.int .u32 ((2 ^ n - 1 : Nat) : Int)) 80
    rwa [size_alloc1] at this
  have HB1 := Lib.hid hb1
  have BX1 := Lib.hid bx1
  have BM1 := Lib.hid bm1
  clear hb1 bx1 bm1 kn0
  go_wp2_with fail
  refine (cut_any (w.heap.size + 1) 0 _ (x : Int) _ BM1.out.1 BM1.out.2 hw (by omega) hx16).mono ?_
  rintro e w2 ⟨rfl, hd2⟩
  rw [Int.toNat_natCast] at hd2
  have BM2 : Hid (BoxAt w2 (w.heap.size + 1) (.int .u32 ((clrM (2 ^ n - 1) (2 ^ x) : Nat) : Int))) := (BM1.out.set _).keep (hd2.below _)
  have BX2 : Hid (BoxAt w2 w.heap.size (.slice none 0 0)) := (BX1.out.setOther (by simp) _).keep (hd2.below _)
  have HB2 : Hid (Below w.heap.size w w2) := (HB1.out.setCell (by simp) _).trans (hd2.below _)
  have km := BM2.out.1
  clear hd2
  go_wp2_with fail
  refine (list_any _ _ (clrM_lt _ hw)).mono ?_
  rintro e w3 ⟨n3, a3, c3, rfl, ho3, hb3⟩
  rw [HRL.out] at ho3
  obtain rfl : n3 = (restL n x).length := by
    obtain ⟨a4, c4, e4⟩ := ho3.row.slice
    simp only [Value.slice.injEq] at e4
    exact e4.2.1
  have HB3 : Hid (Below w.heap.size w w3) := HB2.out.trans (hb3.mono HB2.out.size)
  have BX3 := Lib.hid (BX2.out.keep hb3)
  have HO3 := Lib.hid ho3
  clear ho3 hb3 km
  go_wp2_with fail
  refine (picked_any g n M _ (restL n x) R _ (H.out.keep HB3.out) HM.out HO3.out.row (restL_pos hn hx h2) (restL_len n x) (fun i hi => by have := restL_in hn hx i hi; omega) HR.out HSY.out HLO.out HRA.out).mono ?_
  rintro e w4 ⟨n4, a4, c4, rfl, ho4, hb4⟩
  have kr := (BX3.out.keep hb4).1
  have kf := (BX3.out.keep hb4).2
  have hlt := BX3.out.lt
  have HO4 := Lib.hid ho4
  have HB4 : Hid (Below w.heap.size w w4) := HB3.out.trans (hb4.mono HB3.out.size)
  clear ho4 hb4
  go_wp2
  have q0 : (w4.setCell ⟨w.heap.size, 0, none⟩ (.slice a4 n4 c4)).cell? ⟨w.heap.size, 0, none⟩ = some (.slice a4 n4 c4) := cell_set_same _ kr
  refine bodyPost_ret (v := .agg #[.slice a4 n4 c4]) (by simp [results, Tryz.results207, go_sem, q0]) rfl ⟨n4, a4, c4, rfl, ?_, HB4.out.setCell (by simp) _⟩
  exact (HO4.out.setBelow (by simp; omega) _).mono (by omega)

end Go.Proofs.YtohjfcfcopbmoaaGreatDoor
