/- The texts C6, EqArr, C7, joined. -/
import Derived.Test.YtojbaepcflkgeaaQC1
import Derived.Test.YtojbaepcflkgeaaQLater
import Derived.WalkKit
import Derived.Laws.StructEq

/- Walks: SameGraph. -/
namespace Go.Proofs.Ytojbaepcflkgeaa
open Go.RowKit

set_option maxHeartbeats 400000 in
theorem l1Same_any (v v' : Value) (xs ys : List Int) (w : World) (h : RowAt w v xs) (h' : RowAt w v' ys) :
    Calls Try.prog 91 #[v, v'] w fun e w' => e = .returned (.bool (decide (xs = ys))) ∧ Drawn w w' := by
  have hl := h.len
  have hl' := h'.len
  unfold maxLen at hl hl'
  by_cases hn : xs.length = ys.length
  · have hne : ((xs.length : Int) != (ys.length : Int)) = false := by rw [hn]; simp
    by_cases h0 : xs.length = 0
    · have hd : decide (xs = ys) = true := by rw [decide_eq_true_iff, List.length_eq_zero_iff.1 h0, List.length_eq_zero_iff.1 (by omega : ys.length = 0)]
      rw [hd]
      obtain ⟨a, c, rfl⟩ := h.zero h0
      obtain ⟨a', c', rfl⟩ := h'.zero (by omega)
      clear hn hne h h' h0 hl hl' hd
      go_enter Try.func91, Try.ntmps91
      go_wp2
      refine wp_loop_rounds 1 ?_
      rw [rounds_succ]
      go_wp2
      go_ret
      exact ⟨rfl, Drawn.refl _⟩
    · obtain ⟨b, o, c, rfl, l1, l2, hc⟩ := h.pos (by omega)
      obtain ⟨b', o', c', rfl, l1', l2', hc'⟩ := h'.pos (by omega)
      have HC := Lib.hid hc
      have HC' := Lib.hid hc'
      have HN := Lib.hid hn
      have hle : xs.length ≤ ys.length := by omega
      clear hc hc' hn h0
      go_enter Try.func91, Try.ntmps91
      go_wp2
      go_loopw [5] (fun i wr => ∃ k : Nat, k ≤ xs.length ∧ i = .int .i64 k ∧ (∀ j, j < k → nth xs j = nth ys j) ∧ Drawn w wr) (fun i _ => xs.length - (intOf i).toNat)
      case atStart => exact ⟨0, Nat.zero_le _, rfl, (fun j hj => absurd hj (by omega)), Drawn.refl _⟩
      case round =>
        obtain ⟨k, hk, rfl, he, hd⟩ := hrel
        have HE := Lib.hid he
        clear he
        by_cases hlt : k < xs.length
        · have hlt' : k < ys.length := by omega
          have hck := cell_drawn hd (HC.out k hlt)
          have hck' := cell_drawn hd (HC'.out k hlt')
          by_cases hx : nth xs k = nth ys k
          · have hxb : (nth xs k != nth ys k) = false := by rw [hx]; simp
            have HX := Lib.hid hx
            clear hx
            go_wp2
            go_quiet (fail)
            go_wp2
            go_roundw
            case rel => exact ⟨k + 1, by omega, by go_num, (fun j hj => by rcases Nat.lt_succ_iff_lt_or_eq.1 hj with h | h; exact HE.out j h; rw [h]; exact HX.out), hd.more _⟩
            case measure => simp [intOf]; omega
          · have hxb : (nth xs k != nth ys k) = true := by rw [bne_iff_ne]; exact hx
            have HX := Lib.hid hx
            clear hx
            go_wp2
            go_quiet (fail)
            go_wp2
            go_ret
            exact ⟨ret_bool (by symm; rw [decide_eq_false_iff_not]; intro e; exact HX.out (by rw [e])), hd.more _⟩
        · obtain rfl : k = xs.length := by omega
          go_wp2
          go_ret
          exact ⟨ret_bool (by symm; rw [decide_eq_true_iff]; exact nth_ext HN.out HE.out), hd⟩
  · have hne : ((xs.length : Int) != (ys.length : Int)) = true := by rw [bne_iff_ne]; omega
    have hd : decide (xs = ys) = false := by simp; intro e; exact hn (by rw [e])
    rw [hd]
    obtain ⟨a, c, rfl⟩ := h.slice
    obtain ⟨a', c', rfl⟩ := h'.slice
    go_enter Try.func91, Try.ntmps91
    go_wp2
    go_ret
    exact ⟨rfl, Drawn.refl _⟩

set_option maxHeartbeats 800000 in
theorem l1SameGraph_any (v v' : Value) (xs ys : List (List Int)) (w : World) (h : GridAt w v xs) (h' : GridAt w v' ys) :
    Calls Try.prog 59 #[.agg #[v], .agg #[v']] w fun e w' => e = .returned (.bool (decide (xs = ys))) ∧ Below w.heap.size w w' := by
  have hl := h.len
  have hl' := h'.len
  unfold maxLen at hl hl'
  by_cases hn : xs.length = ys.length
  · have hne : ((xs.length : Int) != (ys.length : Int)) = false := by rw [hn]; simp
    by_cases h0 : xs.length = 0
    · have hd : decide (xs = ys) = true := by rw [decide_eq_true_iff, List.length_eq_zero_iff.1 h0, List.length_eq_zero_iff.1 (by omega : ys.length = 0)]
      rw [hd]
      obtain ⟨a, c, rfl⟩ := h.zero h0
      obtain ⟨a', c', rfl⟩ := h'.zero (by omega)
      clear hn hne h h' h0 hl hl' hd
      go_enter Try.func59, Try.ntmps59
      go_wp2
      refine wp_loop_rounds 1 ?_
      rw [rounds_succ]
      go_wp2
      go_ret
      exact ⟨rfl, ((Below.refl _ _).alloc (Nat.le_refl _) _).alloc (by simp) _⟩
    · obtain ⟨b, o, c, A, C, rfl, l1, l2, hc⟩ := h.pos (by omega)
      obtain ⟨b', o', c', A', C', rfl, l1', l2', hc'⟩ := h'.pos (by omega)
      have HC := Lib.hid hc
      have HC' := Lib.hid hc'
      have HN := Lib.hid hn
      have hle : xs.length ≤ ys.length := by omega
      have hbel : Below w.heap.size w ((w.alloc (.cells #[.slice (some ⟨b, o, none⟩) xs.length c] 30)).alloc (.cells #[.slice (some ⟨b', o', none⟩) ys.length c'] 30)) :=
        ((Below.refl _ _).alloc (Nat.le_refl _) _).alloc (by rw [size_alloc1]; omega) _
      have HB := Lib.hid hbel
      have k1 : ((w.alloc (.cells #[.slice (some ⟨b, o, none⟩) xs.length c] 30)).alloc (.cells #[.slice (some ⟨b', o', none⟩) ys.length c'] 30)).cell? ⟨w.heap.size, 0, none⟩ = some (.slice (some ⟨b, o, none⟩) xs.length c) := by go_simp
      have k2 : ((w.alloc (.cells #[.slice (some ⟨b, o, none⟩) xs.length c] 30)).alloc (.cells #[.slice (some ⟨b', o', none⟩) ys.length c'] 30)).cell? ⟨w.heap.size + 1, 0, none⟩ = some (.slice (some ⟨b', o', none⟩) ys.length c') := by go_simp
      have K1 := Lib.hid k1
      have K2 := Lib.hid k2
      clear hc hc' hn h0 hbel k1 k2
      go_enter Try.func59, Try.ntmps59
      go_wp2
      go_loopw [5] (fun i wr => ∃ k : Nat, k ≤ xs.length ∧ i = .int .i64 k ∧ (∀ j, j < k → nthR xs j = nthR ys j) ∧ Drawn ((w.alloc (.cells #[.slice (some ⟨b, o, none⟩) xs.length c] 30)).alloc (.cells #[.slice (some ⟨b', o', none⟩) ys.length c'] 30)) wr) (fun i _ => xs.length - (intOf i).toNat)
      case atStart => exact ⟨0, Nat.zero_le _, rfl, (fun j hj => absurd hj (by omega)), Drawn.refl _⟩
      case round =>
        obtain ⟨k, hk, rfl, he, hd⟩ := hrel
        have HE := Lib.hid he
        have hbw : Below w.heap.size w wr := HB.out.trans (hd.below _)
        have kb1 := cell_drawn hd K1.out
        have kb2 := cell_drawn hd K2.out
        have HBw := Lib.hid hbw
        clear he
        by_cases hlt : k < xs.length
        · have hlt' : k < ys.length := by omega
          have hck := cell_keep hbw (HC.out k hlt).1
          have hck' := cell_keep hbw (HC'.out k hlt').1
          have hr := Lib.hid ((HC.out k hlt).2.keep hbw)
          have hr' := Lib.hid ((HC'.out k hlt').2.keep hbw)
          clear hbw
          by_cases hx : nthR xs k = nthR ys k
          · have hxb : decide (nthR xs k = nthR ys k) = true := by rw [hx]; simp
            have hcall : ∀ n, Calls Try.prog 91 #[.slice (A k) (nthR xs k).length (C k), .slice (A' k) (nthR ys k).length (C' k)] (wr.drewN n) fun e w2 => e = .returned (.bool true) ∧ ∃ m, w2 = (wr.drewN n).drewN m :=
              fun n => (l1Same_any _ _ _ _ _ (hr.out.drewN n) (hr'.out.drewN n)).mono (by rintro e w2 ⟨rfl, hd2⟩; exact ⟨by rw [hxb], hd2⟩)
            have HCall := Lib.hid hcall
            have HX := Lib.hid hx
            clear hcall hxb hx
            go_wp2
            go_quiet ((go_at_call 91; exact Calls.quiet_of (HCall.out _)))
            go_wp2
            go_roundw
            case rel => exact ⟨k + 1, by omega, by go_num, (fun j hj => by rcases Nat.lt_succ_iff_lt_or_eq.1 hj with h | h; exact HE.out j h; rw [h]; exact HX.out), hd.more _⟩
            case measure => simp [intOf]; omega
          · have hxb : decide (nthR xs k = nthR ys k) = false := by rw [decide_eq_false_iff_not]; exact hx
            have hcall : ∀ n, Calls Try.prog 91 #[.slice (A k) (nthR xs k).length (C k), .slice (A' k) (nthR ys k).length (C' k)] (wr.drewN n) fun e w2 => e = .returned (.bool false) ∧ ∃ m, w2 = (wr.drewN n).drewN m :=
              fun n => (l1Same_any _ _ _ _ _ (hr.out.drewN n) (hr'.out.drewN n)).mono (by rintro e w2 ⟨rfl, hd2⟩; exact ⟨by rw [hxb], hd2⟩)
            have HCall := Lib.hid hcall
            have HX := Lib.hid hx
            clear hcall hxb hx
            go_wp2
            go_quiet ((go_at_call 91; exact Calls.quiet_of (HCall.out _)))
            go_wp2
            go_ret
            exact ⟨ret_bool (by symm; rw [decide_eq_false_iff_not]; intro e; exact HX.out (by rw [e])), below_drewN HBw.out _⟩
        · obtain rfl : k = xs.length := by omega
          clear hbw
          go_wp2
          go_ret
          exact ⟨ret_bool (by symm; rw [decide_eq_true_iff]; exact nthR_ext HN.out HE.out), HBw.out⟩
  · have hne : ((xs.length : Int) != (ys.length : Int)) = true := by rw [bne_iff_ne]; omega
    have hd : decide (xs = ys) = false := by simp; intro e; exact hn (by rw [e])
    rw [hd]
    obtain ⟨a, c, rfl⟩ := h.slice
    obtain ⟨a', c', rfl⟩ := h'.slice
    go_enter Try.func59, Try.ntmps59
    go_wp2
    go_ret
    exact ⟨rfl, ((Below.refl _ _).alloc (Nat.le_refl _) _).alloc (by simp) _⟩

/-- What SameGraph answers. -/
def sameB (L M : List (List Int)) : Bool := decide (GraphP L) && decide (GraphP M) && decide (L = M)

set_option maxHeartbeats 800000 in
theorem specSameGraph_any (v v' : Value) (L M : List (List Int)) (w : World) (h : GridAt w v L) (h' : GridAt w v' M) :
    Calls Try.prog 28 #[.agg #[v], .agg #[v']] w fun e w' => e = .returned (.bool (sameB L M)) ∧ Below w.heap.size w w' := by
  obtain ⟨a0, c0, rfl⟩ := h.slice
  obtain ⟨a1, c1, rfl⟩ := h'.slice
  have ha : Below w.heap.size w ((w.alloc (.cells #[.slice a0 L.length c0] 30)).alloc (.cells #[.slice a1 M.length c1] 30)) := ((Below.refl _ _).alloc (Nat.le_refl _) _).alloc (by simp) _
  have R0 := Lib.hid (h.keep ha)
  have S0 := Lib.hid (h'.keep ha)
  have HA := Lib.hid ha
  clear ha h h'
  go_enter Try.func28, Try.ntmps28
  go_wp2_with fail
  refine (specGraphOk_any _ _ _ R0.out).mono ?_
  rintro e w1 ⟨rfl, hb1⟩
  have kb1 : w1.cell? ⟨w.heap.size, 0, none⟩ = some (.slice a0 L.length c0) := by rw [hb1.cell (by simp; omega)]; go_simp
  have kc1 : w1.cell? ⟨w.heap.size + 1, 0, none⟩ = some (.slice a1 M.length c1) := by rw [hb1.cell (by simp)]; go_simp
  have R1 := Lib.hid (R0.out.keep hb1)
  have S1 := Lib.hid (S0.out.keep hb1)
  have HB1 : Hid (Below w.heap.size w w1) := HA.out.trans (hb1.mono (by simp; omega))
  clear hb1 HA R0 S0
  by_cases hG : GraphP L
  · rw [decide_eq_true hG]
    go_wp2_with fail
    refine (specGraphOk_any _ _ _ S1.out).mono ?_
    rintro e w2 ⟨rfl, hb2⟩
    have kb2 := cell_keep hb2 kb1
    have kc2 := cell_keep hb2 kc1
    have R2 := Lib.hid (R1.out.keep hb2)
    have S2 := Lib.hid (S1.out.keep hb2)
    have HB2 : Hid (Below w.heap.size w w2) := HB1.out.trans (hb2.mono HB1.out.size)
    clear hb2 kb1 kc1 R1 HB1 S1
    by_cases hM : GraphP M
    · have HE : Hid (sameB L M = decide (L = M)) := by show sameB L M = _; simp [sameB, hG, hM]
      rw [decide_eq_true hM]
      clear hG hM
      go_wp2_with fail
      refine (l1SameGraph_any _ _ _ _ _ R2.out S2.out).mono ?_
      rintro e w3 ⟨rfl, hb3⟩
      have HB3 : Hid (Below w.heap.size w w3) := HB2.out.trans (hb3.mono HB2.out.size)
      clear hb3
      go_wp2
      go_ret
      exact ⟨ret_bool HE.out.symm, HB3.out⟩
    · have HE : Hid (sameB L M = false) := by show sameB L M = _; simp [sameB, hM]
      rw [decide_eq_false hM]
      clear hG hM
      go_wp2
      go_ret
      exact ⟨ret_bool HE.out.symm, HB2.out⟩
  · have HE : Hid (sameB L M = false) := by show sameB L M = _; simp [sameB, hG]
    rw [decide_eq_false hG]
    clear hG
    go_wp2
    go_ret
    exact ⟨ret_bool HE.out.symm, HB1.out⟩

end Go.Proofs.Ytojbaepcflkgeaa

/- Go's == on arrays of integers of one cell each, in the model's words. No statement of the program. -/
namespace Go.Proofs.Ytojbaepcflkgeaa
open Go.RowKit

section
variable {P : Program} (w : World)

theorem run_part_int {e : TypeId} {k : IntKind} (he : P.underlying e = some (.int k)) (cs : Array Value) (i : Nat) (v : Value) (h : cs[i]? = some v) : (part e cs i).run P w = .ok v w := by
  unfold part isAgg
  simp [Sem.run_bind, run_underlying he, h]

theorem run_equalIn_array {d len : Nat} {t e : TypeId} {k : IntKind} {i : TypeInfo} (ht : P.underlying t = some (.array len e)) (he : P.underlying e = some (.int k)) (hi : P.info? e = some i) (hs : i.size = 1) (xs ys : Array Value) (X Y : Nat → Int)
    (hx : ∀ j, j < len → xs[j]? = some (.int k (X j))) (hy : ∀ j, j < len → ys[j]? = some (.int k (Y j))) :
    (Op.equalIn (d + 2) t (.agg xs) (.agg ys)).run P w = .ok (decide (∀ j, j < len → X j = Y j)) w := by
  rw [Op.equalIn]
  simp only [Sem.run_bind, run_underlying ht, Result.andThen_ok]
  have hsz : (sizeOf e).run P w = .ok 1 w := by simp [sizeOf, typeInfo, hi, hs, Sem.run_bind]
  simp only [hsz, Result.andThen_ok, Nat.mul_one]
  rw [Std.Legacy.Range.forIn_eq_forIn_range']
  simp only [Std.Legacy.Range.size, Nat.sub_zero, Nat.add_sub_cancel, Nat.div_one]
  have key : ∀ (n s : Nat), s + n = len →
      ((forIn (List.range' s n) ((none, ()) : Option Bool × Unit) (fun j _ => do
          let a ← part e xs j
          let b ← part e ys j
          let r ← Op.equalIn (d + 1) e a b
          if (!r) = true then pure (ForInStep.done (some false, ())) else pure (ForInStep.yield (none, ()))) : Sem (Option Bool × Unit)).run P w) =
        .ok ⟨if (∀ j, j < len → s ≤ j → X j = Y j) then none else some false, ()⟩ w := by
    intro n
    induction n with
    | zero =>
      intro s hsn
      have : ∀ j, j < len → s ≤ j → X j = Y j := fun j h2 h1 => by omega
      rw [if_pos this]
      rfl
    | succ n ih =>
      intro s hsn
      rw [List.range'_succ, List.forIn_cons]
      simp only [Sem.run_bind, run_part_int w he xs s _ (hx s (by omega)), run_part_int w he ys s _ (hy s (by omega)), Result.andThen_ok, run_equalIn_int w d e k k _ _ he]
      by_cases hq : X s = Y s
      · have hb : (X s == Y s) = true := by simpa using hq
        simp only [hb, Bool.not_true, Bool.false_eq_true, if_false, Sem.run_pure, Result.andThen_ok]
        rw [ih (s + 1) (by omega)]
        have e2 : (∀ j, j < len → s + 1 ≤ j → X j = Y j) ↔ (∀ j, j < len → s ≤ j → X j = Y j) := by
          constructor
          · intro h j h2 h1
            by_cases e3 : j = s
            · subst e3; exact hq
            · exact h j h2 (by omega)
          · intro h j h2 h1; exact h j h2 (by omega)
        simp only [e2]
      · have hb : (X s == Y s) = false := by simpa using hq
        have hn : ¬ (∀ j, j < len → s ≤ j → X j = Y j) := fun h => hq (h s (by omega) (Nat.le_refl _))
        simp [hb, hn]
  have k0 := key len 0 (by omega)
  rw [k0]
  simp only [Result.andThen_ok]
  by_cases hq : ∀ j, j < len → X j = Y j
  · rw [if_pos (fun j h1 _ => hq j h1), decide_eq_true hq]
    rfl
  · rw [if_neg (fun h => hq (fun j h1 => h j h1 (Nat.zero_le _))), decide_eq_false hq]
    rfl

end
end Go.Proofs.Ytojbaepcflkgeaa

/- Walks: SameGraph, of the program. -/
namespace Go.Proofs.Ytojbaepcflkgeaa
open Go.RowKit

theorem Try.infoM : (Try.prog.info? 62).map (fun i => (i.zero, i.size, i.bytes)) = some (some (.int .u32 0), 1, 4) := by kernel_rfl
theorem Try.sizeArr : (Try.prog.info? 63).map (·.size) = some 16 := by kernel_rfl
theorem Try.stoodNet : Try.prog.stoodInHeld 65 = false := by kernel_rfl

theorem run_part_arr (w : World) (cs : Array Value) (i : Nat) : (part 63 cs i).run Try.prog w = .ok (.agg (cs.extract i (i + 16))) w := by
  have h := Try.sizeArr
  cases hq : Try.prog.info? 63 with
  | none => simp [hq] at h
  | some j =>
    have hs : j.size = 16 := by simpa [hq] using h
    unfold part isAgg
    simp [Sem.run_bind, run_underlying Try.underlying63, sizeOf, typeInfo, hq, hs]

/-- A strictly increasing list is known by its elements. -/
theorem set_ext {xs ys : List Int} {n : Nat} (hn : n ≤ 16) (hx : SetP xs n) (hy : SetP ys n) (h : ∀ u : Nat, u < 16 → hasB xs u = hasB ys u) : xs = ys := by
  have mono : ∀ {zs : List Int}, SetP zs n → ∀ j i, i < j → j < zs.length → nth zs i < nth zs j := by
    intro zs hz j
    induction j with
    | zero => intro i hi; omega
    | succ j ih =>
      intro i hi hj
      have h1 := (hz (j + 1) hj).2.2 (by omega)
      simp at h1
      by_cases e : i = j
      · subst e; exact h1
      · have := ih i (by omega) (by omega); omega
  have sub : ∀ {ps qs : List Int}, SetP ps n → (∀ u : Nat, u < 16 → hasB ps u = hasB qs u) → ∀ i, i < ps.length → ∃ j, j < qs.length ∧ nth qs j = nth ps i := by
    intro ps qs ha hab i hi
    have h1 := ha i hi
    obtain ⟨u, hu⟩ := Int.eq_ofNat_of_zero_le h1.1
    have h2 := hab u (by have := h1.2.1; omega)
    have h3 : hasB ps u = true := (hasB_iff _ _).2 ⟨i, hi, hu⟩
    rw [h3] at h2
    obtain ⟨j, hj, e⟩ := (hasB_iff _ _).1 h2.symm
    exact ⟨j, hj, by rw [e, hu]⟩
  have eqAt : ∀ i, i < xs.length → i < ys.length → nth xs i = nth ys i := by
    intro i
    induction i using Nat.strongRecOn with
    | _ i ih =>
      intro h1 h2
      obtain ⟨j, hj, e⟩ := sub hx h i h1
      obtain ⟨k, hk, e'⟩ := sub hy (fun u hu => (h u hu).symm) i h2
      rcases Nat.lt_trichotomy j i with hji | hji | hji
      · have e3 := ih j hji (by omega) hj
        have := mono hx i j hji h1
        omega
      · subst hji; exact e.symm
      · have h5 := mono hy j i hji hj
        rcases Nat.lt_trichotomy k i with hki | hki | hki
        · have e3 := ih k hki hk (by omega)
          have := mono hy i k hki h2
          omega
        · subst hki; exact e'
        · have := mono hx k i hki hk
          omega
  have lens : xs.length = ys.length := by
    rcases Nat.lt_trichotomy xs.length ys.length with hl | hl | hl
    · exfalso
      obtain ⟨k, hk, e⟩ := sub hy (fun u hu => (h u hu).symm) xs.length hl
      have e3 := eqAt k hk (by omega)
      have := mono hy xs.length k (by omega) hl
      omega
    · exact hl
    · exfalso
      obtain ⟨k, hk, e⟩ := sub hx h ys.length hl
      have e3 := eqAt k (by omega) hk
      have := mono hx ys.length k (by omega) hl
      omega
  exact nth_ext lens (fun i hi => eqAt i hi (by omega))

/-- Go's == on two nets. -/
def netEq (n n' : Nat) (M M' : Nat → Nat) : Bool := decide (n = n') && decide (∀ i : Nat, i < 16 → (M i : Int) = (M' i : Int))

set_option maxRecDepth 100000 in
theorem run_eql_net (n n' : Nat) (M M' : Nat → Nat) (w : World) : (binOp .eql 65 (.agg (netArr n M)) (.agg (netArr n' M'))).run Try.prog w = .ok (.bool (netEq n n' M M')) w := by
  have hu : Try.prog.underlying 65 = some (.struct (Try.prog.fieldsOf 65)) := by simp [Program.fieldsOf, Try.underlying65]
  obtain ⟨i0, hi, hz0, hz1, hz2⟩ := info_parts Try.infoM
  rw [run_eql_struct, run_equalIn_struct w 9999 65 _ _ hu Try.stoodNet]
  have p0 : ∀ (n : Nat) (M : Nat → Nat), (part 2 (netArr n M) 0).run Try.prog w = .ok (.int .i64 n) w := fun n M => run_part_int w Try.underlying2 _ _ _ (netArr_zero n M)
  have ex : ∀ (n : Nat) (M : Nat → Nat) (j : Nat), j < 16 → ((netArr n M).extract 1 (1 + 16))[j]? = some (.int .u32 (M j : Int)) := fun n M j hj => by
    rw [Array.getElem?_extract, if_pos (by rw [netArr_size]; omega), netArr_get n M j hj]
  have ha := run_equalIn_array (d := 9997) w Try.underlying63 Try.underlying62 hi hz1 ((netArr n M).extract 1 (1 + 16)) ((netArr n' M').extract 1 (1 + 16)) (fun i => (M i : Int)) (fun i => (M' i : Int)) (ex n M) (ex n' M')
  have h0 := run_equalIn_int w 9998 2 .i64 .i64 (n : Int) (n' : Int) Try.underlying2
  simp only [Nat.reduceAdd] at ha h0
  simp only [Program.fieldsOf, Try.underlying65, Op.eqFields, ne_eq, String.reduceEq, not_false_eq_true, if_true, Sem.run_bind, p0, Result.andThen_ok, h0]
  by_cases e0 : n = n'
  · subst e0
    by_cases e1 : ∀ i : Nat, i < 16 → (M i : Int) = (M' i : Int)
    · rw [decide_eq_true e1] at ha
      have hn : netEq n n M M' = true := by unfold netEq; rw [decide_eq_true e1]; simp
      rw [hn]
      simp [run_part_arr, ha]
    · rw [decide_eq_false e1] at ha
      have hn : netEq n n M M' = false := by unfold netEq; rw [decide_eq_false e1]; simp
      rw [hn]
      simp [run_part_arr, ha]
  · have b0 : ((n : Int) == (n' : Int)) = false := by simp; omega
    simp [b0, netEq, e0]

/-- Two valid graphs are equal just where their nets are. -/
theorem nets_same {L M : List (List Int)} (hL : GraphP L) (hM : GraphP M) : netEq L.length M.length (rowM L) (rowM M) = decide (L = M) := by
  unfold netEq
  by_cases hn : L.length = M.length
  · rw [decide_eq_true hn, Bool.true_and, Bool.eq_iff_iff, decide_eq_true_iff, decide_eq_true_iff]
    have sL : ∀ v, v < L.length → SetP (nthR L v) L.length := fun v hv => (hL.2.1 v hv).1
    have sM : ∀ v, v < M.length → SetP (nthR M v) M.length := fun v hv => (hM.2.1 v hv).1
    constructor
    · intro h
      apply nthR_ext hn
      intro v hv
      have h1 : rowM L v = rowM M v := by have := h v (by have := hL.1; omega); omega
      have key : ∀ u : Nat, u < 16 → hasB (nthR L v) u = hasB (nthR M v) u := fun u hu => by
        rw [← rowM_has sL hv hu, ← rowM_has sM (by omega) hu, h1]
      exact set_ext (n := L.length) (by have := hL.1; omega) (sL v hv) (by rw [hn]; exact sM v (by omega)) key
    · intro e i hi
      rw [e]
  · rw [decide_eq_false hn, Bool.false_and]
    symm
    rw [decide_eq_false_iff_not]
    intro e
    exact hn (by rw [e])

theorem cell_put {T : TypeId} {w w' : World} {o : Obj} {n : Nat} {M : Nat → Nat} (hp : NetPut T (w.alloc o) w' w.heap.size n M) {a : Addr} {v : Value} (h : w.cell? a = some v) : w'.cell? a = some v := cell_keep hp.since h

end Go.Proofs.Ytojbaepcflkgeaa
