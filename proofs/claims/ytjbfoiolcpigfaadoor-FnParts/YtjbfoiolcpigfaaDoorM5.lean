/- Walks: the program's graph of picked vertices. -/
import Derived.Test.YtjbfoiolcpigfaaDoorM3
namespace Go.Proofs.YtjbfoiolcpigfaaDoor
open Go.RowKit

/-- Which pairs have been looked at, either way: all with one below a, and of a those with one below b; they are near by R. -/
def fullA (R : Nat → Nat → Bool) (a b i j : Nat) : Bool := decide (i < a ∨ j < a ∨ (i = a ∧ j < b) ∨ (j = a ∧ i < b)) && R i j
theorem fullA_link {R : Nat → Nat → Bool} {a b : Nat} (h1 : R a b = true) (h2 : R b a = true) (i j : Nat) : fullA R a (b + 1) i j = linkA (fullA R a b) a b i j := by
  unfold linkA
  by_cases e1 : i = a ∧ j = b
  · obtain ⟨rfl, rfl⟩ := e1
    have : fullA R i (j + 1) i j = true := by unfold fullA; rw [h1, Bool.and_true, decide_eq_true_iff]; omega
    rw [this]; simp
  · by_cases e2 : i = b ∧ j = a
    · obtain ⟨rfl, rfl⟩ := e2
      have : fullA R j (i + 1) i j = true := by unfold fullA; rw [h2, Bool.and_true, decide_eq_true_iff]; omega
      rw [this]; simp
    · have c1 : (i == a && j == b) = false := by cases h : (i == a && j == b) with | false => rfl | true => (simp at h; exact absurd h e1)
      have c2 : (i == b && j == a) = false := by cases h : (i == b && j == a) with | false => rfl | true => (simp at h; exact absurd h e2)
      rw [c1, c2, Bool.or_false, Bool.or_false]
      unfold fullA
      congr 1
      rw [Bool.eq_iff_iff, decide_eq_true_iff, decide_eq_true_iff]
      omega
theorem fullA_skip {R : Nat → Nat → Bool} {a b : Nat} (h1 : R a b = false) (h2 : R b a = false) (i j : Nat) : fullA R a (b + 1) i j = fullA R a b i j := by
  unfold fullA
  by_cases e1 : i = a ∧ j = b
  · obtain ⟨rfl, rfl⟩ := e1; rw [h1, Bool.and_false, Bool.and_false]
  · by_cases e2 : i = b ∧ j = a
    · obtain ⟨rfl, rfl⟩ := e2; rw [h2, Bool.and_false, Bool.and_false]
    · congr 1
      rw [Bool.eq_iff_iff, decide_eq_true_iff, decide_eq_true_iff]
      omega
theorem fullA_next {R : Nat → Nat → Bool} {m : Nat} (hr : ∀ i j, R i j = true → i < m ∧ j < m) (a i j : Nat) : fullA R a m i j = fullA R (a + 1) 0 i j := by
  unfold fullA
  cases h : R i j with
  | false => rw [Bool.and_false, Bool.and_false]
  | true =>
    have := hr i j h
    rw [Bool.and_true, Bool.and_true, Bool.eq_iff_iff, decide_eq_true_iff, decide_eq_true_iff]
    omega
theorem fullA_zero (R : Nat → Nat → Bool) (i j : Nat) : fullA R 0 0 i j = false := by
  unfold fullA
  rw [decide_eq_false (by omega), Bool.false_and]
theorem fullA_all {R : Nat → Nat → Bool} {m : Nat} (hr : ∀ i j, R i j = true → i < m ∧ j < m) (i j : Nat) : fullA R m 0 i j = R i j := by
  unfold fullA
  cases h : R i j with
  | false => rw [Bool.and_false]
  | true => rw [Bool.and_true, decide_eq_true_iff]; exact Or.inl (hr i j h).1

set_option maxHeartbeats 1600000 in
theorem picked_any (g n : Nat) (M : Nat → Nat) (v1 : Value) (xs : List Int) (R : Nat → Nat → Bool) (w : World) (h : NetBlk 74 w g n M) (hM : ∀ i, M i < 65536) (h1 : RowAt w v1 xs) (h0 : 0 < xs.length) (hl16 : xs.length ≤ 16)
    (hx : ∀ i, i < xs.length → 0 ≤ nth xs i ∧ nth xs i < 16)
    (hR : ∀ i j, i < xs.length → j < xs.length → R i j = hasM (M (nth xs i).toNat) (nth xs j)) (hsym : ∀ i j, R i j = R j i) (hloop : ∀ i, R i i = false) (hrange : ∀ i j, R i j = true → i < xs.length ∧ j < xs.length) :
    Calls Tryd.prog 77 #[.pointer (some ⟨g, 0, none⟩), v1] w (GaveGraph w (adjL xs.length R)) := by
  obtain ⟨b, o, c, rfl, l1, l2, hc⟩ := h1.pos h0
  have hlm := h1.len
  unfold maxLen at hlm
  have hg := h.lt
  have b0 : BoxAt (w.alloc (.cells #[.slice none 0 0] 29)) w.heap.size (.slice none 0 0) := BoxAt.new _ _ _
  have hb0 : Below w.heap.size w (w.alloc (.cells #[.slice none 0 0] 29)) := (Below.refl _ _).alloc (Nat.le_refl _) _
  have g0 : NetBlk 74 ((w.alloc (.cells #[.slice none 0 0] 29)).alloc (.cells (netArr 0 (fun _ => 0)) 74)) (w.heap.size + 1) 0 (fun _ => 0) := by
    have := heap_alloc_new (w.alloc (.cells #[.slice none 0 0] 29)) (.cells (netArr 0 (fun _ => 0)) 74)
    rwa [size_alloc1] at this
  have HB1 : Hid (Below w.heap.size w ((w.alloc (.cells #[.slice none 0 0] 29)).alloc (.cells (netArr 0 (fun _ => 0)) 74))) := hb0.alloc hb0.size _
  have HBX1 : Hid (BoxAt ((w.alloc (.cells #[.slice none 0 0] 29)).alloc (.cells (netArr 0 (fun _ => 0)) 74)) w.heap.size (.slice none 0 0)) := b0.keep ((Below.refl _ _).alloc (Nat.le_refl _) _)
  have HCK : Hid (∀ w', Below w.heap.size w w' → ∀ i, i < xs.length → w'.cell? ⟨b, o + i, none⟩ = some (.int .i64 (nth xs i))) := fun w' hb i hi => cell_keep hb (hc i hi)
  have HNK : Hid (∀ w', Below w.heap.size w w' → NetBlk 74 w' g n M) := fun w' hb => h.keep hb
  have HM := Lib.hid hM
  have HX := Lib.hid hx
  have HR := Lib.hid hR
  have HSY := Lib.hid hsym
  have HLO := Lib.hid hloop
  have HRA := Lib.hid hrange
  clear h hM h1 hc hx hR hsym hloop hrange b0 hb0
  go_enter Tryd.func77, Tryd.ntmps77
  go_wp2_with (refine wpList_store_net rfl 74 (.tmp 5) (.tmp 12) rfl (w.heap.size + 1) xs.length (fun _ => 0) rfl rfl Tryd.sizeNet 0 (fun _ => 0) g0 ?_; intro w3 hp; have HPU : Hid (NetBlk 74 w3 (w.heap.size + 1) xs.length (fun _ => 0) ∧ BoxAt w3 w.heap.size (.slice none 0 0) ∧ Below w.heap.size w w3) := ⟨hp.net, HBX1.out.keepB hp.below (by omega), HB1.out.trans (hp.below.mono (by omega))⟩; clear hp g0)
  go_loopw [15] (fun i wr => ∃ k : Nat, k ≤ xs.length ∧ i = .int .i64 k ∧ NetBlk 74 wr (w.heap.size + 1) xs.length (fun i => pm (fullA R k 0 i)) ∧ BoxAt wr w.heap.size (.slice none 0 0) ∧ Below w.heap.size w wr) (fun i _ => xs.length - (intOf i).toNat)
  case atStart => exact ⟨0, Nat.zero_le _, rfl, HPU.out.1.congr rfl (fun i _ => by rw [pm_congr (fun j _ => fullA_zero R i j), pm_false]), HPU.out.2.1, HPU.out.2.2⟩
  case round =>
    obtain ⟨k, hk, rfl, hn, hbx, hb⟩ := hrel
    have HN := Lib.hid hn
    have HBX := Lib.hid hbx
    have HB := Lib.hid hb
    clear hn hbx HPU
    by_cases hlt : k < xs.length
    · have kk := HCK.out _ hb k hlt
      have hxk := HX.out k hlt
      obtain ⟨u, hu⟩ : ∃ u : Nat, nth xs k = (u : Int) := ⟨(nth xs k).toNat, by omega⟩
      rw [hu] at kk
      have HU := Lib.hid hu
      have hu16 : u < 16 := by omega
      have hu16' : (u : Int) < 16 := by omega
      clear hb hxk hu
      go_wp2_with fail
      go_loopw [22] (fun i wr => ∃ q : Nat, q ≤ xs.length ∧ i = .int .i64 q ∧ NetBlk 74 wr (w.heap.size + 1) xs.length (fun i => pm (fullA R k q i)) ∧ BoxAt wr w.heap.size (.slice none 0 0) ∧ Below w.heap.size w wr) (fun i _ => xs.length - (intOf i).toNat)
      case atStart => exact ⟨0, Nat.zero_le _, rfl, HN.out, HBX.out, HB.out⟩
      case round =>
        rename World => w4
        obtain ⟨q, hq, rfl, hn, hbx, hb⟩ := hrel
        have HN4 := Lib.hid hn
        have HBX4 := Lib.hid hbx
        have HB4 := Lib.hid hb
        clear hn hbx kk
        by_cases hql : q < xs.length
        · have kq := HCK.out _ hb q hql
          have km := (HNK.out _ hb).at.2 u hu16
          have HRQ : Hid (R k q = hasM (M u) (nth xs q)) := by show R k q = _; rw [HR.out k q hlt hql, HU.out, Int.toNat_natCast]
          clear hb
          go_wp2_with fail
          refine (has_any (M u) _ _ (HM.out u)).mono ?_
          rintro e w' ⟨rfl, rfl⟩
          rw [← HRQ.out]
          by_cases hh : R k q = true
          · have r2 : R q k = true := by rw [HSY.out]; exact hh
            have hkq : k ≠ q := by intro e; subst e; rw [HLO.out] at hh; cases hh
            have HS : Hid (∀ i j, fullA R k (q + 1) i j = linkA (fullA R k q) k q i j) := fun i j => fullA_link hh r2 i j
            rw [hh]
            clear hh r2 km kq
            go_wp2_with fail
            refine (link_any (w.heap.size + 1) xs.length k q (fun i => pm (fullA R k q i)) _ HN4.out (fun i => pm_lt _) (by omega) (by omega) hkq).mono ?_
            rintro e w6 ⟨rfl, hp6⟩
            have HN6 : Hid (NetBlk 74 w6 (w.heap.size + 1) xs.length (fun i => pm (fullA R k (q + 1) i))) := hp6.net.congr rfl (fun i hi => by rw [linkM_pm _ (by omega) (by omega) hkq]; exact pm_congr (fun j _ => (HS.out i j).symm))
            have BX6 : Hid (BoxAt w6 w.heap.size (.slice none 0 0)) := HBX4.out.keepB hp6.below (by omega)
            have HB6 : Hid (Below w.heap.size w w6) := HB4.out.trans (hp6.below.mono (by omega))
            clear hp6
            go_wp2
            go_roundw
            case rel => exact ⟨q + 1, by omega, by go_num, HN6.out, BX6.out, HB6.out⟩
            case measure => simp [intOf]; omega
          · have hh' : R k q = false := by simpa using hh
            have r2 : R q k = false := by rw [HSY.out]; exact hh'
            have HS : Hid (∀ i j, fullA R k (q + 1) i j = fullA R k q i j) := fun i j => fullA_skip hh' r2 i j
            rw [hh']
            clear hh hh' r2 km kq
            go_wp2
            go_roundw
            case rel => exact ⟨q + 1, by omega, by go_num, HN4.out.congr rfl (fun i _ => pm_congr (fun j _ => (HS.out i j).symm)), HBX4.out, HB4.out⟩
            case measure => simp [intOf]; omega
        · obtain rfl : q = xs.length := by omega
          clear hb
          go_wp2
          go_roundw
          case rel => exact ⟨k + 1, by omega, by go_num, HN4.out.congr rfl (fun i _ => pm_congr (fun j _ => fullA_next HRA.out k i j)), HBX4.out, HB4.out⟩
          case measure => simp [intOf]; omega
    · obtain rfl : k = xs.length := by omega
      clear hb
      go_wp2_with fail
      refine (graph_any (w.heap.size + 1) xs.length _ _ HN.out (fun i => pm_lt _) h0 hl16).mono ?_
      rintro e w7 ⟨n7, a7, c7, rfl, ho7, hb7⟩
      have e7 : maskL xs.length (fun i => pm (fullA R xs.length 0 i)) = adjL xs.length R := adjL_congr (A := fullA R xs.length 0) (fun i _ j _ => fullA_all HRA.out i j)
      rw [e7] at ho7
      have kr := (HBX.out.keep hb7).1
      have kf := (HBX.out.keep hb7).2
      have hlt := HBX.out.lt
      have HO7 := Lib.hid ho7
      have HB7 : Hid (Below w.heap.size w w7) := HB.out.trans (hb7.mono HB.out.size)
      clear ho7 hb7 e7
      go_wp2
      have q0 : (w7.setCell ⟨w.heap.size, 0, none⟩ (.slice a7 n7 c7)).cell? ⟨w.heap.size, 0, none⟩ = some (.slice a7 n7 c7) := cell_set_same _ kr
      refine bodyPost_ret (v := .agg #[.slice a7 n7 c7]) (by simp [results, Tryd.results77, go_sem, q0]) rfl ⟨n7, a7, c7, rfl, ?_, HB7.out.setCell (by simp) _⟩
      exact (HO7.out.setBelow (by simp; omega) _).mono (by omega)

end Go.Proofs.YtjbfoiolcpigfaaDoor
