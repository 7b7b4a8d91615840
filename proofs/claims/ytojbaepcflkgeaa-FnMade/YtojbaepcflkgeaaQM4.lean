/- The texts M4, M5, M6, joined. -/
import Derived.Test.YtojbaepcflkgeaaQM1
import Derived.Test.YtojbaepcflkgeaaQLater
import Derived.Test.YtojbaepcflkgeaaQC1

/- Walks: these vertices of a graph, in this order: the model's and the program's. -/
namespace Go.Proofs.Ytojbaepcflkgeaa
open Go.RowKit

set_option maxHeartbeats 1600000 in
theorem l2Of_any (v v1 : Value) (L : List (List Int)) (xs : List Int) (R : Nat → Nat → Bool) (w : World) (h : GridAt w v L) (h1 : RowAt w v1 xs) (h0 : 0 < xs.length) (hl16 : xs.length ≤ 16)
    (hx : ∀ i, i < xs.length → 0 ≤ nth xs i ∧ nth xs i < (L.length : Int))
    (hR : ∀ k i, k < i → i < xs.length → R k i = hasB (nthR L (nth xs i).toNat) (nth xs k)) (hsym : ∀ i j, R i j = R j i) (hloop : ∀ i, R i i = false) (hrange : ∀ i j, R i j = true → i < xs.length ∧ j < xs.length) :
    Calls Try.prog 54 #[.agg #[v], v1] w (GaveGraph w (adjL xs.length R)) := by
  obtain ⟨a0, c0, rfl⟩ := h.slice
  obtain ⟨b, o, c, rfl, l1, l2, hc⟩ := h1.pos h0
  have hlm := h1.len
  unfold maxLen at hlm
  have b1 : BoxAt ((w.alloc (.cells #[.slice a0 L.length c0] 30)).alloc (.cells #[.slice none 0 0] 30)) w.heap.size (.slice a0 L.length c0) := ⟨by go_simp, by go_simp⟩
  have b2 : BoxAt ((w.alloc (.cells #[.slice a0 L.length c0] 30)).alloc (.cells #[.slice none 0 0] 30)) (w.heap.size + 1) (.slice none 0 0) := ⟨by go_simp, by go_simp⟩
  have ha : Below w.heap.size w ((w.alloc (.cells #[.slice a0 L.length c0] 30)).alloc (.cells #[.slice none 0 0] 30)) := ((Below.refl _ _).alloc (Nat.le_refl _) _).alloc (by simp) _
  have hsz : ((w.alloc (.cells #[.slice a0 L.length c0] 30)).alloc (.cells #[.slice none 0 0] 30)).heap.size = w.heap.size + 1 + 1 := by rw [size_alloc1, size_alloc1]
  have HGK : Hid (∀ w', Below w.heap.size w w' → GridAt w' (.slice a0 L.length c0) L) := fun w' hb => h.keep hb
  have HCK : Hid (∀ w', Below w.heap.size w w' → ∀ i, i < xs.length → w'.cell? ⟨b, o + i, none⟩ = some (.int .i64 (nth xs i))) := fun w' hb i hi => cell_keep hb (hc i hi)
  have B1 := Lib.hid b1
  have B2 := Lib.hid b2
  have HA := Lib.hid ha
  have HSZ := Lib.hid hsz
  have HX := Lib.hid hx
  have HR := Lib.hid hR
  have HSY := Lib.hid hsym
  have HLO := Lib.hid hloop
  have HRA := Lib.hid hrange
  clear b1 b2 ha hsz hR hsym hloop hrange h h1 hc hx
  go_enter Try.func54, Try.ntmps54
  go_wp2_with fail
  refine (l1Empty_any xs.length _ (by omega)).mono ?_
  rintro e w2 ⟨n2, a2, c2, rfl, ho2, hb2⟩
  obtain rfl : n2 = xs.length := by
    obtain ⟨a3, c3, e3⟩ := ho2.grid.slice
    simp only [Value.slice.injEq] at e3
    simpa using e3.2.1
  rw [adjL_empty] at ho2
  have hz2 : w.heap.size + 1 + 1 ≤ w2.heap.size := by have := hb2.size; rw [HSZ.out] at this; exact this
  have hbw : Below w2.heap.size w2 (w2.alloc (.cells #[.slice a2 xs.length c2] 30)) := (Below.refl _ _).alloc (Nat.le_refl _) _
  have HW0 : Hid (Work w w.heap.size (.slice a0 L.length c0) w2.heap.size xs.length (w.heap.size + 1 + 1) (stepA R 0 0) (w2.alloc (.cells #[.slice a2 xs.length c2] 30))) := by
    refine ⟨(B1.out.keep hb2).keep hbw, (B2.out.keep hb2).keep hbw, ⟨a2, c2, BoxT.new _ _ _, ?_⟩, ?_⟩
    · rw [adjL_congr (fun i _ j _ => stepA_zero R i j)]
      exact (ho2.mono (by rw [HSZ.out]; exact Nat.le_refl _)).keep hbw
    · exact (HA.out.trans (hb2.mono (by rw [HSZ.out]; omega))).alloc (by omega) _
  clear ho2 hb2 hbw B1 B2 HA
  go_wp2_with fail
  go_loopw [6] (fun i wr => ∃ k : Nat, k ≤ xs.length ∧ i = .int .i64 k ∧ Work w w.heap.size (.slice a0 L.length c0) w2.heap.size xs.length (w.heap.size + 1 + 1) (stepA R k 0) wr) (fun i _ => xs.length - (intOf i).toNat)
  case atStart => exact ⟨0, Nat.zero_le _, rfl, HW0.out⟩
  case round =>
    obtain ⟨k, hk, rfl, hw⟩ := hrel
    have HW3 := Lib.hid hw
    clear hw
    by_cases hlt : k < xs.length
    · go_wp2_with fail
      go_loopw [7] (fun i wr => ∃ q : Nat, q ≤ k ∧ i = .int .i64 q ∧ Work w w.heap.size (.slice a0 L.length c0) w2.heap.size xs.length (w.heap.size + 1 + 1) (stepA R k q) wr) (fun i _ => k - (intOf i).toNat)
      case atStart => exact ⟨0, Nat.zero_le _, rfl, HW3.out⟩
      case round =>
        rename World => w4
        obtain ⟨q, hq, rfl, hw⟩ := hrel
        have HW4 := Lib.hid hw
        have kb := hw.arg.1
        have kk := HCK.out _ hw.bel k hlt
        by_cases hql : q < k
        · have kq := HCK.out _ hw.bel q (by omega)
          have hql2 : (q : Int) < (xs.length : Int) := by omega
          have hxk := HX.out k hlt
          have HRQ := Lib.hid (HR.out q k hql hlt)
          obtain ⟨hb, hhb⟩ : ∃ hb, hb = hasB (nthR L (nth xs k).toNat) (nth xs q) := ⟨_, rfl⟩
          have HHB := Lib.hid hhb
          have hcall : Hid (∀ x : Later w4, Calls Try.prog 88 #[.agg #[.slice a0 L.length c0], .int .i64 (nth xs k), .int .i64 (nth xs q)] x.at fun e w5 => e = .returned (.bool hb) ∧ ∃ y : Later w4, w5 = y.at) :=
            fun x => Calls.later ((l1Edge_any _ L (nth xs k) (nth xs q) _ (HGK.out _ (HW4.out.bel.trans (x.bel.mono HW4.out.bel.size))) hxk.1 hxk.2).mono fun _ _ ⟨h1, h2⟩ => ⟨by rw [h1, HHB.out], h2⟩)
          have kl := fun x : Later w4 => x.cell kb
          have kl1 := fun x : Later w4 => x.cell kk
          have kl2 := fun x : Later w4 => x.cell kq
          clear hw hhb kb kk kq
          cases hb with
          | false =>
            have r1 : R q k = false := by rw [HRQ.out, ← HHB.out]
            have r2 : R k q = false := by rw [HSY.out]; exact r1
            have HS : Hid (∀ i j, stepA R k (q + 1) i j = stepA R k q i j) := fun i j => stepA_skip r1 r2 i j
            clear r1 r2 hxk
            go_wp2_with fail
            refine wp_region_later (by kernel_rfl) (by kernel_rfl) ?_
            repeat (go_big_quiet_step ((go_at_call 88; exact hcall.out _)))
            refine wpQuiet_nil ?_
            rintro _ ⟨x, rfl⟩
            clear kl kl1 kl2
            go_wp2
            go_roundw
            case rel => exact ⟨q + 1, by omega, by go_num, (HW4.out.keep x.bel).congr (fun i j => (HS.out i j).symm)⟩
            case measure => simp [intOf]; omega
          | true =>
            have r1 : R q k = true := by rw [HRQ.out, ← HHB.out]
            have r2 : R k q = true := by rw [HSY.out]; exact r1
            have HS : Hid (∀ i j, stepA R k (q + 1) i j = linkA (stepA R k q) q k i j) := fun i j => stepA_link r1 r2 i j
            clear r1 r2 hxk
            go_wp2_with fail
            refine wp_region_later (by kernel_rfl) (by kernel_rfl) ?_
            repeat (go_big_quiet_step ((go_at_call 88; exact hcall.out _)))
            refine wpQuiet_nil ?_
            rintro _ ⟨x, rfl⟩
            have hw5 := HW4.out.keep x.bel
            generalize x.at = w5 at hw5 ⊢
            have HW5 := Lib.hid hw5
            clear kl kl1 kl2 hcall hw5
            obtain ⟨ag, cg, hbt, hog⟩ := HW5.out.out
            obtain ⟨g, cap, eg, hBg, hgs, _⟩ := hog.place (by rw [adjL_len]; omega)
            simp only [adjL_len, Value.slice.injEq, true_and] at eg
            obtain ⟨rfl, rfl⟩ := eg
            have hgne : w2.heap.size ≠ g := by
              obtain ⟨cur, hcur⟩ := hog.blkT
              intro e
              rw [← e] at hcur
              have hbb : w5.heap[w2.heap.size]? = _ := hbt
              rw [hcur] at hbb
              simp at hbb
            have kg := hbt.box.1
            have HBT := Lib.hid hbt
            have HOG := Lib.hid hog
            clear hbt hog
            go_wp2_with fail
            refine (l1Link_adj q k g cg (w.heap.size + 1 + 1) xs.length _ _ HOG.out (by have := HBT.out.lt; omega) (by omega) hlt hl16 (by omega)).mono ?_
            rintro e w6 ⟨rfl, ho6, hb6, ht6⟩
            have bt6 : BoxT 30 w6 w2.heap.size (.slice (some ⟨g, 0, none⟩) xs.length cg) := by
              unfold BoxT
              rw [ht6 _ HBT.out.lt hgne]
              exact HBT.out
            have kb6 := bt6.box.1
            have kf6 := bt6.box.2
            have HW6 : Hid (Work w w.heap.size (.slice a0 L.length c0) w2.heap.size xs.length (w.heap.size + 1 + 1) (stepA R k (q + 1)) (w6.setCell ⟨w2.heap.size, 0, none⟩ (.slice (some ⟨g, 0, none⟩) xs.length cg))) := by
              refine ⟨(HW5.out.arg.keepB hb6 (by omega)).setOther (by simp; omega) _, (HW5.out.res.keepB hb6 (by omega)).setOther (by simp; omega) _, ⟨_, cg, bt6.set _, ?_⟩, (HW5.out.bel.trans (hb6.mono (by omega))).setCell (by simp; omega) _⟩
              rw [adjL_congr (fun i _ j _ => HS.out i j)]
              exact ho6.setType bt6 (by decide) (by decide) 0 _
            clear bt6 ho6 hb6 ht6 kg
            go_wp2
            go_roundw
            case rel => exact ⟨q + 1, by omega, by go_num, HW6.out⟩
            case measure => simp [intOf]; omega
        · obtain rfl : q = k := by omega
          clear kb hw kk
          go_wp2
          go_roundw
          case rel => exact ⟨q + 1, by omega, by go_num, HW4.out.congr (fun i j => stepA_next HLO.out q i j)⟩
          case measure => simp [intOf]; omega
    · obtain rfl : k = xs.length := by omega
      obtain ⟨ag, cg, hbt, hog⟩ := HW3.out.out
      have kg := hbt.box.1
      have kr := HW3.out.res.1
      have kf := HW3.out.res.2
      have HBT := Lib.hid hbt
      have HOG := Lib.hid hog
      clear hbt hog
      go_wp2
      have q0 : (wr.setCell ⟨w.heap.size + 1, 0, none⟩ (.slice ag xs.length cg)).cell? ⟨w.heap.size + 1, 0, none⟩ = some (.slice ag xs.length cg) := cell_set_same _ kr
      refine bodyPost_ret (v := .agg #[.slice ag xs.length cg]) (by simp [results, Try.results54, go_sem, q0]) rfl ⟨_, ag, cg, rfl, ?_, HW3.out.bel.setCell (by simp) _⟩
      rw [← adjL_congr (fun i _ j _ => stepA_all HRA.out i j)]
      exact (HOG.out.setBelow (by simp) _).mono (by omega)

end Go.Proofs.Ytojbaepcflkgeaa

/- Walks: the program's graph of picked vertices. -/
namespace Go.Proofs.Ytojbaepcflkgeaa
open Go.RowKit

/-- Which pairs have been looked at, either way: all with one below a, and of a those with one below b; they are near by R. -/
def fullA (R : Nat → Nat → Bool) (a b i j : Nat) : Bool := decide (i < a ∨ j < a ∨ (i = a ∧ j < b) ∨ (j = a ∧ i < b)) && R i j
theorem fullA_link {R : Nat → Nat → Bool} {a b : Nat} (h1 : R a b = true) (h2 : R b a = true) (i j : Nat) : fullA R a (b + 1) i j = linkA (fullA R a b) a b i j := by
  unfold linkA
  by_cases e1 : i = a ∧ j = b
  · obtain ⟨rfl, rfl⟩ := e1
    have : fullA R i (j + 1) i j = true := by unfold fullA; rw [h1, Bool.and_true, decide_eq_true_iff]; omega
    rw [this]; simp
  · by_cases e2 : i = b ∧ j = a
    · obtain ⟨rfl, rfl⟩ := e2
      have : fullA R j (i + 1) i j = true := by unfold fullA; rw [h2, Bool.and_true, decide_eq_true_iff]; omega
      rw [this]; simp
    · have c1 : (i == a && j == b) = false := by cases h : (i == a && j == b) with | false => rfl | true => (simp at h; exact absurd h e1)
      have c2 : (i == b && j == a) = false := by cases h : (i == b && j == a) with | false => rfl | true => (simp at h; exact absurd h e2)
      rw [c1, c2, Bool.or_false, Bool.or_false]
      unfold fullA
      congr 1
      rw [Bool.eq_iff_iff, decide_eq_true_iff, decide_eq_true_iff]
      omega
theorem fullA_skip {R : Nat → Nat → Bool} {a b : Nat} (h1 : R a b = false) (h2 : R b a = false) (i j : Nat) : fullA R a (b + 1) i j = fullA R a b i j := by
  unfold fullA
  by_cases e1 : i = a ∧ j = b
  · obtain ⟨rfl, rfl⟩ := e1; rw [h1, Bool.and_false, Bool.and_false]
  · by_cases e2 : i = b ∧ j = a
    · obtain ⟨rfl, rfl⟩ := e2; rw [h2, Bool.and_false, Bool.and_false]
    · congr 1
      rw [Bool.eq_iff_iff, decide_eq_true_iff, decide_eq_true_iff]
      omega
theorem fullA_next {R : Nat → Nat → Bool} {m : Nat} (hr : ∀ i j, R i j = true → i < m ∧ j < m) (a i j : Nat) : fullA R a m i j = fullA R (a + 1) 0 i j := by
  unfold fullA
  cases h : R i j with
  | false => rw [Bool.and_false, Bool.and_false]
  | true =>
    have := hr i j h
    rw [Bool.and_true, Bool.and_true, Bool.eq_iff_iff, decide_eq_true_iff, decide_eq_true_iff]
    omega
theorem fullA_zero (R : Nat → Nat → Bool) (i j : Nat) : fullA R 0 0 i j = false := by
  unfold fullA
  rw [decide_eq_false (by omega), Bool.false_and]
theorem fullA_all {R : Nat → Nat → Bool} {m : Nat} (hr : ∀ i j, R i j = true → i < m ∧ j < m) (i j : Nat) : fullA R m 0 i j = R i j := by
  unfold fullA
  cases h : R i j with
  | false => rw [Bool.and_false]
  | true => rw [Bool.and_true, decide_eq_true_iff]; exact Or.inl (hr i j h).1

end Go.Proofs.Ytojbaepcflkgeaa

/- Walks: the subgraph of a set, the graph under other names. -/
namespace Go.Proofs.Ytojbaepcflkgeaa
open Go.RowKit

/-- The boxes of a function of one graph: its graph's and its result's. -/
structure Two (w0 : World) (v : Value) (w : World) : Prop where
  arg : BoxAt w w0.heap.size v
  res : BoxAt w (w0.heap.size + 1) (.slice none 0 0)
  bel : Below w0.heap.size w0 w
theorem Two.start (w : World) (v : Value) : Two w v ((w.alloc (.cells #[v] 30)).alloc (.cells #[.slice none 0 0] 30)) :=
  ⟨(BoxAt.new w v _).keep ((Below.refl _ _).alloc (Nat.le_refl _) _), by have := BoxAt.new (w.alloc (.cells #[v] 30)) (.slice none 0 0) 30; rwa [size_alloc1] at this, ((Below.refl _ _).alloc (Nat.le_refl _) _).alloc (by simp) _⟩
theorem Two.keep {w0 : World} {v : Value} {w w' : World} (h : Two w0 v w) (hb : Below w.heap.size w w') : Two w0 v w' :=
  ⟨h.arg.keep hb, h.res.keep hb, h.bel.trans (hb.mono h.bel.size)⟩
theorem Two.put {T : TypeId} {w0 : World} {v : Value} {w w' : World} {o : Obj} {n : Nat} {M : Nat → Nat} (h : Two w0 v w) (hp : NetPut T (w.alloc o) w' w.heap.size n M) : Two w0 v w' := h.keep hp.since
theorem Two.lt {w0 : World} {v : Value} {w : World} (h : Two w0 v w) : w0.heap.size + 1 < w.heap.size := h.res.lt
theorem Two.q0 {w0 : World} {v : Value} {w : World} (h : Two w0 v w) (u : Value) : (w.setCell ⟨w0.heap.size + 1, 0, none⟩ u).cell? ⟨w0.heap.size + 1, 0, none⟩ = some u := cell_set_same _ h.res.1
theorem Two.yes {w0 : World} {v : Value} {w : World} (h : Two w0 v w) {R : List (List Int)} {B m c : Nat} {a : Option Addr} {ok : Bool} (ho : OwnGrid 2 35 w B (.slice a m c) R) (hB : w0.heap.size + 1 < B) (hok : ok = true) :
    GaveGB w0 R ok (.returned (.tuple #[.agg #[.slice a m c], .bool true])) (w.setCell ⟨w0.heap.size + 1, 0, none⟩ (.slice a m c)) :=
  ⟨m, a, c, by rw [hok], (ho.setBelow hB _).mono (by omega), h.bel.setCell (by simp) _⟩
theorem Two.no {w0 : World} {v : Value} {w : World} (h : Two w0 v w) {R : List (List Int)} {ok : Bool} (hR : R = []) (hok : ok = false) :
    GaveGB w0 R ok (.returned (.tuple #[.agg #[.slice none 0 0], .bool false])) (w.setCell ⟨w0.heap.size + 1, 0, none⟩ (.slice none 0 0)) := by
  rw [hR, hok]
  exact GaveGB.no (h.bel.setCell (by exact Nat.le_succ _) _)

/-- Who is near whom among picked vertices. -/
def pickA (L : List (List Int)) (xs : List Int) (i j : Nat) : Bool := decide (i < xs.length) && decide (j < xs.length) && adjB L (nth xs i).toNat (nth xs j).toNat
theorem pickA_sym {L : List (List Int)} (hG : GraphP L) (xs : List Int) (i j : Nat) : pickA L xs i j = pickA L xs j i := by
  unfold pickA
  rw [adjB_sym hG]
  cases decide (i < xs.length) <;> cases decide (j < xs.length) <;> rfl
theorem pickA_self {L : List (List Int)} (hG : GraphP L) (xs : List Int) (i : Nat) : pickA L xs i i = false := by
  unfold pickA
  rw [adjB_self hG, Bool.and_false]
theorem pickA_range {L : List (List Int)} {xs : List Int} {i j : Nat} (h : pickA L xs i j = true) : i < xs.length ∧ j < xs.length := by
  unfold pickA at h
  simp at h
  exact h.1
/-- The list names vertices of the graph. -/
def InP (L : List (List Int)) (xs : List Int) : Prop := ∀ i, i < xs.length → 0 ≤ nth xs i ∧ nth xs i < (L.length : Int)
theorem pickA_spec {L : List (List Int)} {xs : List Int} (hG : GraphP L) (hx : InP L xs) : ∀ k i, k < i → i < xs.length → pickA L xs k i = hasB (nthR L (nth xs i).toNat) (nth xs k) := by
  intro k i hki hi
  have h1 := hx k (by omega)
  have h2 := hx i hi
  have hz := hG.1
  unfold pickA
  rw [decide_eq_true hi, decide_eq_true (by omega : k < xs.length), adjB_sym hG, ← adjB_has hG (by omega) (by omega), Int.toNat_of_nonneg h1.1]
  rfl
theorem pickA_impl {L : List (List Int)} {xs : List Int} (hG : GraphP L) (hx : InP L xs) : ∀ i j, i < xs.length → j < xs.length → pickA L xs i j = hasM (rowM L (nth xs i).toNat) (nth xs j) := by
  intro i j hi hj
  have h1 := hx j hj
  have hz := hG.1
  unfold pickA
  rw [decide_eq_true hi, decide_eq_true hj, ← adjB_hasM _ (by omega), Int.toNat_of_nonneg h1.1]
  rfl
theorem SetP.inP {L : List (List Int)} {xs : List Int} (h : SetP xs L.length) : InP L xs := fun i hi => ⟨(h i hi).1, by have := (h i hi).2.1; omega⟩
theorem OrdP.inP {L : List (List Int)} {xs : List Int} (h : OrdP xs L.length) : InP L xs := fun i hi => by
  have := (h.2 i hi).1
  have : 0 ≤ nth xs i ∧ nth xs i ≤ (L.length : Int) - 1 := by simpa [inB] using this
  omega

/-- The graph of picked vertices, where there is one. -/
def pickL (L : List (List Int)) (xs : List Int) (ok : Bool) : List (List Int) := if ok = true then adjL xs.length (pickA L xs) else []
theorem pickL_small {L : List (List Int)} {xs : List Int} {ok : Bool} (h : ok = true → xs.length ≤ 16) : Small (pickL L xs ok) := by
  unfold pickL
  split
  · rename_i h1
    exact adjL_small _ _ (h h1)
  · exact ⟨by simp, fun i hi => absurd hi (by simp)⟩
/-- May this subgraph be? -/
def indB (L : List (List Int)) (xs : List Int) : Bool := setB L xs && decide (0 < xs.length)
theorem indB_yes {L : List (List Int)} {xs : List Int} (h : indB L xs = true) : GraphP L ∧ SetP xs L.length ∧ 0 < xs.length ∧ xs.length ≤ 16 := by
  unfold indB setB at h
  simp at h
  have := h.1.2.len (by omega)
  have := h.1.1.1
  exact ⟨h.1.1, h.1.2, h.2, by omega⟩
theorem orderB_yes {L : List (List Int)} {xs : List Int} (h : orderB L xs = true) : GraphP L ∧ OrdP xs L.length ∧ 0 < xs.length ∧ xs.length ≤ 16 := by
  unfold orderB at h
  simp at h
  have := h.1.1
  have := h.2.1
  exact ⟨h.1, h.2, by omega, by omega⟩
theorem indL_small (L : List (List Int)) (xs : List Int) : Small (pickL L xs (indB L xs)) := pickL_small (fun h => (indB_yes h).2.2.2)
theorem renL_small (L : List (List Int)) (xs : List Int) : Small (pickL L xs (orderB L xs)) := pickL_small (fun h => (orderB_yes h).2.2.2)

end Go.Proofs.Ytojbaepcflkgeaa
