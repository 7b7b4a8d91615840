/- The texts U1, U5, joined. -/
import Derived.Test.YtikfbfclbmlopaaQ1
import Derived.Test.YtikfbfclbmlopaaQ6
import Derived.Test.YtikfbfclbmlopaaQ2
import Derived.Test.YtikfbfclbmlopaaQ7
import Derived.Test.YtikfbfclbmlopaaQ5
import Derived.Test.YtikfbfclbmlopaaLater

/- Plain facts: a graph under other names has as many edges. -/
namespace Go.Proofs.Ytikfbfclbmlopaa
open Go.RowKit

theorem pick_graph {L : List (List Int)} {xs : List Int} (hG : GraphP L) (h1 : 1 ≤ xs.length) (h16 : xs.length ≤ 16) : GraphP (adjL xs.length (pickA L xs)) :=
  adjL_graph ⟨h1, h16⟩ (fun i j h => (pickA_range h).2) (pickA_sym hG xs) (pickA_self hG xs)
/-- The number of edges by who is near whom. -/
theorem many_adj {L : List (List Int)} (hG : GraphP L) : 2 * manyN L = ((sumTo (fun i => sumTo (fun j => if adjB L i j then 1 else 0) L.length) L.length : Nat) : Int) := by
  have hz := hG.1
  have h1 := bits_edges hG
  have h2 := sumTo_split (fun i => bitsTo (rowM L i) 16) L.length (16 - L.length) (fun i h1 _ => by
    have : rowM L i = 0 := by unfold rowM; exact if_neg (by omega)
    show bitsTo (rowM L i) 16 = 0
    rw [this, bitsTo_zero])
  rw [show L.length + (16 - L.length) = 16 from by omega] at h2
  rw [h2] at h1
  have h3 : sumTo (fun i => bitsTo (rowM L i) 16) L.length = sumTo (fun i => sumTo (fun j => if adjB L i j then 1 else 0) L.length) L.length := sumTo_congr (fun i hi => by
    rw [bitsTo_sum]
    have := sumTo_split (fun j => if (rowM L i).testBit j then 1 else 0) L.length (16 - L.length) (fun j hj _ => by
      have : (rowM L i).testBit j = false := by
        show adjB L i j = false
        cases hb : adjB L i j with
        | false => rfl
        | true => exact absurd (adjB_range hG hb).2 (by omega)
      rw [this]; rfl)
    rw [show L.length + (16 - L.length) = 16 from by omega] at this
    exact this)
  rw [h3] at h1
  have e1 : manyN L = ((edgesTo L L.length).length : Int) := by unfold manyN; rw [edgesL, if_pos hG]
  rw [e1, h1]
  omega

/-- A sum over a list of numbers. -/
def sumL (f : Int → Nat) (xs : List Int) : Nat := (xs.map f).sum
theorem sumL_perm {f : Int → Nat} {xs ys : List Int} (h : xs.Perm ys) : sumL f xs = sumL f ys := (h.map f).sum_nat
theorem sumL_to (f : Int → Nat) (xs : List Int) : sumL f xs = sumTo (fun i => f (nth xs i)) xs.length := by
  have key : ∀ k, k ≤ xs.length → sumL f (xs.take k) = sumTo (fun i => f (nth xs i)) k := by
    intro k
    induction k with
    | zero => intro _; simp [sumL, sumTo]
    | succ k ih =>
      intro hk
      rw [take_snoc (by omega)]
      simp only [sumTo, ← ih (by omega)]
      simp [sumL]
  have := key xs.length (Nat.le_refl _)
  rwa [List.take_length] at this
theorem ord_perm {xs : List Int} {n : Nat} (h : OrdP xs n) : xs.Perm (allL n) := by
  have hnd : xs.Nodup := by
    rw [List.nodup_iff_pairwise_ne, List.pairwise_iff_getElem]
    intro i j hi hj hij e
    have hh := (h.2 j hj).2
    have : hasB (xs.take j) (nth xs j) = true := (hasB_take (Nat.le_of_lt hj) _).2 ⟨i, hij, by rw [nth_eq hi, nth_eq hj]; exact e⟩
    rw [this] at hh
    cases hh
  have hnd2 : (allL n).Nodup := by
    rw [List.nodup_iff_pairwise_ne]
    exact (allL_pair n).imp (fun h => by omega)
  have hsub : ∀ z, z ∈ xs → z ∈ allL n := by
    intro z hz
    obtain ⟨i, hi, rfl⟩ := List.mem_iff_getElem.1 hz
    have := (h.2 i hi).1
    rw [nth_eq hi] at this
    have h2 : 0 ≤ xs[i] ∧ xs[i] ≤ (n : Int) - 1 := by simpa [inB] using this
    exact (allL_mem _ _).2 ⟨xs[i].toNat, by omega, by omega⟩
  rw [List.perm_ext_iff_of_nodup hnd hnd2]
  intro z
  refine ⟨hsub z, fun hz => ?_⟩
  rcases Classical.em (z ∈ xs) with h1 | h1
  · exact h1
  · exfalso
    have h3 : (z :: xs).Nodup := List.nodup_cons.2 ⟨h1, hnd⟩
    have h4 : (z :: xs) ⊆ allL n := by
      intro y hy
      rcases List.mem_cons.1 hy with rfl | hy
      · exact hz
      · exact hsub y hy
    have := h3.length_le_of_subset h4
    rw [List.length_cons, allL_len, h.1] at this
    omega
/-- Renaming by an order keeps the number of edges. -/
theorem renamed_many {L : List (List Int)} {xs : List Int} (hG : GraphP L) (h : OrdP xs L.length) : GraphP (adjL xs.length (pickA L xs)) ∧ manyN (adjL xs.length (pickA L xs)) = manyN L := by
  have hz := hG.1
  have hl := h.1
  have hG2 := pick_graph (xs := xs) hG (by omega) (by omega)
  refine ⟨hG2, ?_⟩
  have h1 := many_adj hG
  have h2 := many_adj hG2
  rw [adjL_len] at h2
  have e2 : sumTo (fun i => sumTo (fun j => if adjB (adjL xs.length (pickA L xs)) i j then 1 else 0) xs.length) xs.length = sumL (fun a => sumL (fun b => if adjB L a.toNat b.toNat then 1 else 0) xs) xs := by
    rw [sumL_to]
    refine sumTo_congr (fun i hi => ?_)
    rw [sumL_to]
    refine sumTo_congr (fun j hj => ?_)
    rw [adjB_adjL hG2 hi (by omega)]
    unfold pickA
    rw [decide_eq_true hi, decide_eq_true hj]
    rfl
  have hnth : ∀ i, i < L.length → nth (allL L.length) i = (i : Int) := fun i hi => by simp [nth, allL, hi]
  have e1 : sumTo (fun i => sumTo (fun j => if adjB L i j then 1 else 0) L.length) L.length = sumL (fun a => sumL (fun b => if adjB L a.toNat b.toNat then 1 else 0) (allL L.length)) (allL L.length) := by
    rw [sumL_to, allL_len]
    refine sumTo_congr (fun i hi => ?_)
    rw [sumL_to, allL_len]
    refine sumTo_congr (fun j hj => ?_)
    rw [hnth i hi, hnth j hj, Int.toNat_natCast, Int.toNat_natCast]
  have hp := ord_perm h
  have e3 : sumL (fun a => sumL (fun b => if adjB L a.toNat b.toNat then 1 else 0) xs) xs = sumL (fun a => sumL (fun b => if adjB L a.toNat b.toNat then 1 else 0) (allL L.length)) (allL L.length) := by
    rw [sumL_perm hp]
    unfold sumL
    congr 1
    refine List.map_congr_left (fun a _ => ?_)
    exact sumL_perm hp
  rw [e2, e3, ← e1] at h2
  omega

end Go.Proofs.Ytikfbfclbmlopaa

/- The walk of FnSetsOk. -/
namespace Go.Proofs.Ytikfbfclbmlopaa
open Go.RowKit

set_option maxHeartbeats 8000000 in
set_option maxRecDepth 100000 in
theorem lawSetsOk (a0 : Option Addr) (n0 c0 : Nat) (w : World) (hb : n0 ≤ 4096 → BytesAt w w.heap.size (.slice a0 n0 c0) n0) :
    Calls Try.prog 4 #[.slice a0 n0 c0] w fun e w' => e = .returned (.bool true) ∧ Below w.heap.size w w' := by
  have HBY := Lib.hid hb
  clear hb
  go_enter Try.func4, Try.ntmps4
  go_wp2_with fail
  refine (big_any _ _ _ _).mono ?_
  rintro e w' ⟨rfl, rfl⟩
  by_cases hbig : (4096 : Int) < (n0 : Int)
  · rw [decide_eq_true hbig]
    go_wp2
    go_ret
    exact ⟨rfl, Below.refl _ _⟩
  rw [decide_eq_false hbig]
  go_wp2_with fail
  refine (drawOrderOk_any n0 _ _ (HBY.out (by omega))).mono ?_
  rintro e w1 ⟨L, m, a, cap, xs, k, av, cv, rfl, hm17, hxl, hg1, hr1, hb1⟩
  obtain rfl : m = L.length := by
    obtain ⟨a3, c3, e3⟩ := hg1.slice
    simp only [Value.slice.injEq] at e3
    exact e3.2.1
  have hz1 : w.heap.size ≤ w1.heap.size := hb1.size
  have hst : Below w1.heap.size w1 (w1.alloc (.cells #[.slice a L.length cap] 26)) := (Below.refl _ _).alloc (Nat.le_refl _) _
  have HB1 : Hid (Below w.heap.size w (w1.alloc (.cells #[.slice a L.length cap] 26))) := hb1.trans (hst.mono hz1)
  have HG1 := Lib.hid (hg1.keep hst)
  have HR1 := Lib.hid (hr1.keep hst)
  have BX1 := Lib.hid (BoxAt.new w1 (.slice a L.length cap) 26)
  clear hg1 hr1 hb1 hst
  go_wp2_with fail
  generalize (w1.alloc (.cells #[.slice a L.length cap] 26)) = W1 at HB1 HG1 HR1 BX1 ⊢
  refine (implOrderOk_any _ _ L xs _ HG1.out HR1.out).mono ?_
  rintro e w2 ⟨rfl, hb2⟩
  have HB2 := Lib.hid hb2
  have kb2 := (BX1.out.keep hb2).1
  have HGK : Hid (∀ w', Below W1.heap.size W1 w' → GridAt w' (.slice a L.length cap) L) := fun w' h => HG1.out.keep h
  have HRK : Hid (∀ w', Below W1.heap.size W1 w' → RowAt w' (.slice av k cv) xs) := fun w' h => HR1.out.keep h
  have HXK : Hid (∀ w', Below W1.heap.size W1 w' → BoxAt w' w1.heap.size (.slice a L.length cap)) := fun w' h => BX1.out.keep h
  obtain ⟨B, hB⟩ : ∃ B, orderB L xs = B := ⟨_, rfl⟩
  have HOB := Lib.hid hB
  have q1 : (B != B) = false := by simp
  rw [hB]
  clear hb2 hB HG1 HR1 BX1
  go_wp2_with fail
  refine (specOrderOk_any _ _ L xs _ (HGK.out _ HB2.out) (HRK.out _ HB2.out)).mono ?_
  rintro e w3 ⟨rfl, hb3⟩
  rw [HOB.out]
  have HB3 : Hid (Below W1.heap.size W1 w3) := HB2.out.trans (hb3.mono HB2.out.size)
  have HBY3 : Hid (BytesAt w3 w3.heap.size (.slice a0 n0 c0) n0) := ((HBY.out (by omega)).keepB (HB1.out.trans (HB3.out.mono HB1.out.size)) (Nat.le_refl _)).wide (Nat.le_trans HB1.out.size HB3.out.size)
  clear hb3 kb2 HB2
  go_wp2_with fail
  refine (drawSetOk_any n0 _ _ HBY3.out).mono ?_
  rintro e w4 ⟨Q, m4, a4, cap4, ys, k4, av4, cv4, rfl, -, -, hg4, hr4, hb4⟩
  have hst4 : Below w4.heap.size w4 (w4.alloc (.cells #[.slice a4 m4 cap4] 26)) := (Below.refl _ _).alloc (Nat.le_refl _) _
  have hz4 : w3.heap.size ≤ w4.heap.size := hb4.size
  have HB4 : Hid (Below W1.heap.size W1 (w4.alloc (.cells #[.slice a4 m4 cap4] 26))) := (HB3.out.trans (hb4.mono HB3.out.size)).trans (hst4.mono (Nat.le_trans HB3.out.size hz4))
  have HG4 := Lib.hid (hg4.keep hst4)
  have HR4 := Lib.hid (hr4.keep hst4)
  have BX4 := Lib.hid (BoxAt.new w4 (.slice a4 m4 cap4) 26)
  have kb4 := (HXK.out _ HB4.out).1
  clear hg4 hr4 hb4 hst4 HB3 HBY3
  go_wp2_with fail
  generalize (w4.alloc (.cells #[.slice a4 m4 cap4] 26)) = W4 at HB4 HG4 HR4 BX4 kb4 ⊢
  refine (implRenamed_any _ _ L xs _ (HGK.out _ HB4.out) (HRK.out _ HB4.out)).mono ?_
  rintro e w6 ⟨n6, a6, c6, rfl, ho6, hb6⟩
  rw [HOB.out] at ho6
  rw [HOB.out]
  have hst6 : Below w6.heap.size w6 (w6.alloc (.cells #[.slice a6 n6 c6] 26)) := (Below.refl _ _).alloc (Nat.le_refl _) _
  have HB6 : Hid (Below W4.heap.size W4 (w6.alloc (.cells #[.slice a6 n6 c6] 26))) := hb6.trans (hst6.mono hb6.size)
  have HG6 := Lib.hid (ho6.grid.keep hst6)
  have BX6 := Lib.hid (BoxAt.new w6 (.slice a6 n6 c6) 26)
  clear ho6 hb6 hst6 kb4
  go_wp2_with fail
  generalize (w6.alloc (.cells #[.slice a6 n6 c6] 26)) = W at HB6 HG6 BX6 ⊢
  have hBW : Below W1.heap.size W1 W := HB4.out.trans (HB6.out.mono HB4.out.size)
  have HBW := Lib.hid hBW
  have k3 := (HXK.out _ hBW).1
  have k6 := (BX4.out.keep HB6.out).1
  have k8 := BX6.out.1
  have kl3 := fun x : Later W => x.cell k3
  have kl6 := fun x : Later W => x.cell k6
  have kl8 := fun x : Later W => x.cell k8
  obtain ⟨S, hS⟩ : ∃ S, setB Q ys = S := ⟨_, rfl⟩
  have HS := Lib.hid hS
  have qS : (S == S) = true := by simp
  have hcA : Hid (∀ x : Later W, Calls Try.prog 33 #[.agg #[.slice a4 m4 cap4], .slice av4 k4 cv4] x.at fun e w5 => e = .returned (.bool S) ∧ ∃ y : Later W, w5 = y.at) :=
    fun x => Calls.later ((implSetOk_any _ _ Q ys _ ((HG4.out.keep HB6.out).keep x.bel) ((HR4.out.keep HB6.out).keep x.bel)).mono fun _ _ ⟨h1, h2⟩ => ⟨by rw [h1, HS.out], h2⟩)
  have hcB : Hid (∀ x : Later W, Calls Try.prog 34 #[.agg #[.slice a4 m4 cap4], .slice av4 k4 cv4] x.at fun e w5 => e = .returned (.bool S) ∧ ∃ y : Later W, w5 = y.at) :=
    fun x => Calls.later ((specSetOk_any _ _ Q ys _ ((HG4.out.keep HB6.out).keep x.bel) ((HR4.out.keep HB6.out).keep x.bel)).mono fun _ _ ⟨h1, h2⟩ => ⟨by rw [h1, HS.out], h2⟩)
  clear hS hBW k3 k6 k8 q1
  cases B with
  | false =>
    refine wp_region_later (by kernel_rfl) (by kernel_rfl) ?_
    repeat (go_big_quiet_step ((first | (go_at_call 33; with_reducible exact hcA.out _) | (go_at_call 34; with_reducible exact hcB.out _))))
    refine wpQuiet_nil ?_
    rintro _ ⟨x, rfl⟩
    have HFIN : Hid (Below w.heap.size w x.at) := HB1.out.trans ((HBW.out.trans (x.bel.mono HBW.out.size)).mono HB1.out.size)
    clear kl3 kl6 kl8 qS hcA hcB
    go_wp2
    go_ret
    exact ⟨rfl, HFIN.out⟩
  | true =>
    have hob := HOB.out
    unfold orderB at hob
    simp only [Bool.and_eq_true, decide_eq_true_eq] at hob
    obtain ⟨hGX, hMX⟩ := renamed_many hob.1 hob.2
    have HGX := Lib.hid hGX
    have HMX := Lib.hid hMX
    have HG6' : Hid (GridAt W (.slice a6 n6 c6) (adjL xs.length (pickA L xs))) := HG6.out
    obtain ⟨E, hE⟩ : ∃ E, manyN L = E := ⟨_, rfl⟩
    have HE := Lib.hid hE
    have qE : (E == E) = true := by simp
    have hcC : Hid (∀ x : Later W, Calls Try.prog 20 #[.agg #[.slice a6 n6 c6]] x.at fun e w5 => e = .returned (.bool true) ∧ ∃ y : Later W, w5 = y.at) :=
      fun x => Calls.later ((specGraphOk_any _ _ _ (HG6'.out.keep x.bel)).mono fun _ _ ⟨h1, h2⟩ => ⟨by rw [h1, decide_eq_true HGX.out], h2⟩)
    have hcD : Hid (∀ x : Later W, Calls Try.prog 21 #[.agg #[.slice a6 n6 c6]] x.at fun e w5 => e = .returned (.int .i64 E) ∧ ∃ y : Later W, w5 = y.at) :=
      fun x => Calls.later ((implManyEdges_any _ _ _ (HG6'.out.keep x.bel)).mono fun _ _ ⟨h1, h2⟩ => ⟨by rw [h1, HMX.out, HE.out], h2⟩)
    have hcE : Hid (∀ x : Later W, Calls Try.prog 35 #[.agg #[.slice a L.length cap]] x.at fun e w5 => e = .returned (.int .i64 E) ∧ ∃ y : Later W, w5 = y.at) :=
      fun x => Calls.later ((specManyEdges_any _ L _ ((HGK.out _ HBW.out).keep x.bel)).mono fun _ _ ⟨h1, h2⟩ => ⟨by rw [h1, HE.out], h2⟩)
    clear hob hGX hMX hE
    refine wp_region_later (by kernel_rfl) (by kernel_rfl) ?_
    repeat (go_big_quiet_step ((first | (go_at_call 33; with_reducible exact hcA.out _) | (go_at_call 34; with_reducible exact hcB.out _) | (go_at_call 20; with_reducible exact hcC.out _) | (go_at_call 21; with_reducible exact hcD.out _) | (go_at_call 35; with_reducible exact hcE.out _))))
    refine wpQuiet_nil ?_
    rintro _ ⟨x, rfl⟩
    have HFIN : Hid (Below w.heap.size w x.at) := HB1.out.trans ((HBW.out.trans (x.bel.mono HBW.out.size)).mono HB1.out.size)
    clear kl3 kl6 kl8 qS qE hcA hcB hcC hcD hcE
    go_wp2
    go_ret
    exact ⟨rfl, HFIN.out⟩

end Go.Proofs.Ytikfbfclbmlopaa
