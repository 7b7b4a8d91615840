/- The texts EG1, EC1, joined. -/
import Derived.Test.YtohjfcfcopbmoaaGreatDoorQN4
import Derived.Test.YtohjfcfcopbmoaaGreatDoorQM1
import Derived.Test.YtohjfcfcopbmoaaGreatDoorQLater
import Derived.Test.YtohjfcfcopbmoaaGreatDoorQEO1

/- Walks: how many pairs of a list are no neighbours, of the model. -/
namespace Go.Proofs.YtohjfcfcopbmoaaGreatDoor
open Go.RowKit

set_option maxHeartbeats 2000000 in
set_option maxRecDepth 100000 in
theorem l7Missing_any (v v1 : Value) (L : List (List Int)) (xs : List Int) (B : Nat → Nat → Bool) (w : World) (h : GridAt w v L) (h1 : RowAt w v1 xs) (hlen : xs.length ≤ 16)
    (hx : ∀ i, i < xs.length → ∃ u : Nat, u < L.length ∧ nth xs i = (u : Int)) (hB : ∀ k i, k < xs.length → i < xs.length → hasB (nthR L (vtxN xs k)) (nth xs i) = B (vtxN xs k) (vtxN xs i)) :
    Calls Tryz.prog 242 #[.agg #[v], v1] w fun e w' => e = .returned (.int .i64 ((missN B xs : Nat) : Int)) ∧ Below w.heap.size w w' := by
  obtain ⟨a0, c0, rfl⟩ := h.slice
  obtain ⟨a1, c1, rfl⟩ := h1.slice
  have HGK : Hid (∀ w', Below w.heap.size w w' → GridAt w' (.slice a0 L.length c0) L) := fun w' hb => h.keep hb
  have HRK : Hid (∀ w', Below w.heap.size w w' → RowAt w' (.slice a1 xs.length c1) xs) := fun w' hb => h1.keep hb
  have HB0 : Hid (Below w.heap.size w (w.alloc (.cells #[.slice a0 L.length c0] 26))) := (Below.refl _ _).alloc (Nat.le_refl _) _
  have HX0 : Hid (BoxAt (w.alloc (.cells #[.slice a0 L.length c0] 26)) w.heap.size (.slice a0 L.length c0)) := BoxAt.new _ _ _
  have HX := Lib.hid hx
  have HBB := Lib.hid hB
  clear h h1 hx hB
  go_enter Tryz.func242, Tryz.ntmps242
  go_wp2_with fail
  go_loopw [5, 6] (fun s i wr => ∃ k : Nat, k ≤ xs.length ∧ i = .int .i64 k ∧ s = .int .i64 ((missTo B xs k : Nat) : Int) ∧ BoxAt wr w.heap.size (.slice a0 L.length c0) ∧ Below w.heap.size w wr) (fun _ i _ => xs.length - (intOf i).toNat)
  case atStart => exact ⟨0, Nat.zero_le _, rfl, rfl, HX0.out, HB0.out⟩
  case round =>
    obtain ⟨i, hi, rfl, rfl, hbx, hb⟩ := hrel
    have HBX := Lib.hid hbx
    have HBL := Lib.hid hb
    clear hbx hb
    by_cases hlt : i < xs.length
    · have HMT : Hid (∀ q, q ≤ i → missTo B xs i + sumTo (missA B xs i) q ≤ 512) := fun q hq => by
        have h1 := missTo_le B xs (i := i) (by omega)
        have h2 := missRow_le B xs i q
        omega
      have HNX : Hid (missTo B xs (i + 1) = missTo B xs i + sumTo (missA B xs i) i) := rfl
      obtain ⟨m0, hm0⟩ : ∃ m0, m0 = missTo B xs i := ⟨_, rfl⟩
      rw [← hm0] at HMT HNX
      have HM0 := Lib.hid hm0
      rw [← hm0]
      clear hm0
      go_wp2_with fail
      go_loopw [5, 7] (fun s q wr => ∃ k : Nat, k ≤ i ∧ q = .int .i64 k ∧ s = .int .i64 ((m0 + sumTo (missA B xs i) k : Nat) : Int) ∧ BoxAt wr w.heap.size (.slice a0 L.length c0) ∧ Below w.heap.size w wr) (fun _ q _ => i - (intOf q).toNat)
      case atStart => exact ⟨0, Nat.zero_le _, rfl, rfl, HBX.out, HBL.out⟩
      case round =>
        rename World => w4
        obtain ⟨k, hk, rfl, rfl, hbx, hb⟩ := hrel
        have HX4 := Lib.hid hbx
        have HB4 := Lib.hid hb
        have hbd := HMT.out k hk
        have HS : Hid (sumTo (missA B xs i) (k + 1) = sumTo (missA B xs i) k + missA B xs i k) := rfl
        obtain ⟨s, hs⟩ : ∃ s, s = sumTo (missA B xs i) k := ⟨_, rfl⟩
        rw [← hs] at hbd HS ⊢
        have HSS := Lib.hid hs
        clear hs
        by_cases hql : k < i
        · obtain ⟨x, hxn, hxe⟩ := HX.out k (by omega)
          obtain ⟨y, hyn, hye⟩ := HX.out i hlt
          obtain ⟨bx, ox, cx, ex, lx1, lx2, hcx⟩ := (HRK.out _ hb).pos (by omega)
          simp only [Value.slice.injEq, true_and] at ex
          obtain ⟨rfl, rfl⟩ := ex
          have kk := hcx k (by omega)
          have ki := hcx i hlt
          have kb := hbx.1
          have hbe := HBB.out k i (by omega) hlt
          have hvk : vtxN xs k = x := by unfold vtxN; rw [hxe, Int.toNat_natCast]
          have hvi : vtxN xs i = y := by unfold vtxN; rw [hye, Int.toNat_natCast]
          have hma : missA B xs i k = if B x y then 0 else 1 := by unfold missA; rw [hvk, hvi]
          rw [hvk, hvi, hye] at hbe
          rw [hxe] at kk
          rw [hye] at ki
          have HMA := Lib.hid hma
          have hcall : Hid (∀ z : Later w4, Calls Tryz.prog 83 #[.agg #[.slice a0 L.length c0], .int .i64 (x : Int), .int .i64 (y : Int)] z.at fun e w5 => e = .returned (.bool (B x y)) ∧ ∃ t : Later w4, w5 = t.at) :=
            fun z => Calls.later ((l1Edge_any _ L (x : Int) (y : Int) _ (HGK.out _ (HB4.out.trans (z.bel.mono HB4.out.size))) (by omega) (by omega)).mono fun _ _ ⟨h1, h2⟩ => ⟨by rw [h1, Int.toNat_natCast, hbe], h2⟩)
          have kl := fun z : Later w4 => z.cell kb
          have kl1 := fun z : Later w4 => z.cell kk
          have kl2 := fun z : Later w4 => z.cell ki
          have hiI : (i : Int) < (xs.length : Int) := by omega
          have hkI : (k : Int) < (xs.length : Int) := by omega
          clear hbx hb hcx kk ki kb hbe hvk hvi hma hxe hye
          obtain ⟨t, ht⟩ : ∃ t, t = B x y := ⟨_, rfl⟩
          rw [← ht] at HMA hcall
          have HT := Lib.hid ht
          clear ht
          go_wp2_with fail
          cases t with
          | false =>
            refine wp_region_later (by kernel_rfl) (by kernel_rfl) ?_
            repeat (go_big_quiet_step ((go_at_call 83; exact hcall.out _)))
            refine wpQuiet_nil ?_
            rintro _ ⟨z, rfl⟩
            have hx5 := HX4.out.keep z.bel
            have hb5 : Below w.heap.size w z.at := HB4.out.trans (z.bel.mono HB4.out.size)
            generalize z.at = w5 at hx5 hb5 ⊢
            have HX5 := Lib.hid hx5
            have HB5 := Lib.hid hb5
            clear kl kl1 kl2 hcall hx5 hb5
            go_wp2
            go_roundw
            case rel => exact ⟨k + 1, by omega, by go_num, by rw [HS.out, HMA.out]; go_num, HX5.out, HB5.out⟩
            case measure => simp [intOf]; omega
          | true =>
            refine wp_region_later (by kernel_rfl) (by kernel_rfl) ?_
            repeat (go_big_quiet_step ((go_at_call 83; exact hcall.out _)))
            refine wpQuiet_nil ?_
            rintro _ ⟨z, rfl⟩
            have hx5 := HX4.out.keep z.bel
            have hb5 : Below w.heap.size w z.at := HB4.out.trans (z.bel.mono HB4.out.size)
            generalize z.at = w5 at hx5 hb5 ⊢
            have HX5 := Lib.hid hx5
            have HB5 := Lib.hid hb5
            clear kl kl1 kl2 hcall hx5 hb5
            go_wp2
            go_roundw
            case rel => exact ⟨k + 1, by omega, by go_num, by rw [HS.out, HMA.out]; go_num, HX5.out, HB5.out⟩
            case measure => simp [intOf]; omega
        · obtain rfl : k = i := by omega
          clear hbx hb
          go_wp2
          go_roundw
          case rel => exact ⟨k + 1, by omega, by go_num, by rw [HNX.out, ← HSS.out], HX4.out, HB4.out⟩
          case measure => simp [intOf]; omega
    · obtain rfl : i = xs.length := by omega
      go_wp2
      go_ret
      exact ⟨rfl, HBL.out⟩

end Go.Proofs.YtohjfcfcopbmoaaGreatDoor

/- Plain facts: an order built by taking, again and again, the first vertex whose neighbours that are left are all near each other. -/
namespace Go.Proofs.YtohjfcfcopbmoaaGreatDoor
open Go.RowKit

/-- The first number below n of which p holds; n if there is none. -/
def findTo (p : Nat → Bool) : Nat → Nat
  | 0 => 0
  | n + 1 => if findTo p n < n then findTo p n else if p n = true then n else n + 1
theorem findTo_le (p : Nat → Bool) (n : Nat) : findTo p n ≤ n := by
  induction n with
  | zero => exact Nat.le_refl _
  | succ n ih => rw [findTo]; split; omega; split <;> omega
theorem findTo_no {p : Nat → Bool} {n v : Nat} (hv : v < findTo p n) : p v = false := by
  induction n with
  | zero => simp [findTo] at hv
  | succ n ih =>
    have hle := findTo_le p n
    rw [findTo] at hv
    by_cases h1 : findTo p n < n
    · rw [if_pos h1] at hv; exact ih hv
    · rw [if_neg h1] at hv
      have e : findTo p n = n := by omega
      by_cases h2 : p n = true
      · rw [if_pos h2] at hv; exact ih (by omega)
      · rw [if_neg h2] at hv
        by_cases h3 : v = n
        · subst h3; simpa using h2
        · exact ih (by omega)
theorem findTo_yes {p : Nat → Bool} {n : Nat} (h : findTo p n < n) : p (findTo p n) = true := by
  induction n with
  | zero => simp [findTo] at h
  | succ n ih =>
    have hle := findTo_le p n
    rw [findTo] at h ⊢
    by_cases h1 : findTo p n < n
    · rw [if_pos h1]; exact ih h1
    · rw [if_neg h1] at h ⊢
      by_cases h2 : p n = true
      · rw [if_pos h2]; exact h2
      · rw [if_neg h2] at h; omega
theorem findTo_some {p : Nat → Bool} {n v : Nat} (hv : v < n) (hp : p v = true) : findTo p n < n := by
  rcases Nat.lt_or_ge (findTo p n) n with h | h
  · exact h
  · have := findTo_no (p := p) (n := n) (v := v) (by omega)
    rw [hp] at this; cases this
theorem findTo_at {p : Nat → Bool} {n v : Nat} (hv : v < n) (hp : p v = true) (hn : ∀ u, u < v → p u = false) : findTo p n = v := by
  have h1 := findTo_some hv hp
  have h2 := findTo_yes h1
  rcases Nat.lt_trichotomy (findTo p n) v with h | h | h
  · rw [hn _ h] at h2; cases h2
  · exact h
  · have := findTo_no h
    rw [hp] at this; cases this
theorem findTo_none {p : Nat → Bool} {n : Nat} (hn : ∀ u, u < n → p u = false) : findTo p n = n := by
  have hle := findTo_le p n
  rcases Nat.lt_or_ge (findTo p n) n with h | h
  · have := findTo_yes h
    rw [hn _ h] at this; cases this
  · omega

/-- May v go: it has not gone, and its neighbours that are left are near each other. -/
def mayGo (A : Nat → Nat → Bool) (ys : List Int) (v : Nat) : Bool := !hasB ys (v : Int) && (missN A (listM (pm (leftB A ys v))) == 0)
def poS (A : Nat → Nat → Bool) (n : Nat) : Nat → List Int
  | 0 => []
  | k + 1 => if findTo (mayGo A (poS A n k)) n < n then poS A n k ++ [(findTo (mayGo A (poS A n k)) n : Int)] else poS A n k
def pfB (A : Nat → Nat → Bool) (n : Nat) : Bool := decide ((poS A n n).length = n)
theorem poS_le (A : Nat → Nat → Bool) (n k : Nat) : (poS A n k).length ≤ k := by
  induction k with
  | zero => exact Nat.le_refl _
  | succ k ih =>
    rw [poS]
    split
    · rw [List.length_append, List.length_singleton]; omega
    · omega
theorem poS_stuck {A : Nat → Nat → Bool} {n k : Nat} (h : findTo (mayGo A (poS A n k)) n = n) : ∀ m, k ≤ m → poS A n m = poS A n k := by
  intro m
  induction m with
  | zero => intro h1; have : k = 0 := by omega
            subst this; rfl
  | succ m ih =>
    intro h1
    by_cases e : k = m + 1
    · subst e; rfl
    · rw [poS, ih (by omega), if_neg (by omega)]
theorem poS_no {A : Nat → Nat → Bool} {n k : Nat} (hk : k < n) (h : findTo (mayGo A (poS A n k)) n = n) : pfB A n = false := by
  unfold pfB
  rw [decide_eq_false_iff_not, poS_stuck h n (by omega)]
  have := poS_le A n k
  omega
theorem missN_zero {B : Nat → Nat → Bool} {zs : List Int} (h : ∀ i k, k < i → i < zs.length → B (vtxN zs k) (vtxN zs i) = true) : missN B zs = 0 := by
  unfold missN missTo
  refine sumTo_zero (fun i hi => sumTo_zero (fun k hk => ?_))
  unfold missA
  rw [h i k hk hi]; rfl
/-- Two later neighbours of one vertex are neighbours in the filled graph. -/
theorem later_pair {A : Nat → Nat → Bool} {n : Nat} (hA : RelP n A) {xs : List Int} (h : OrdP xs n) {v i j : Nat} (hv : v < n) (hi : laterA A xs v i = true) (hj : laterA A xs v j = true) (hij : i ≠ j) : fillX A xs i j = true := by
  obtain ⟨hk, e⟩ := ordP_idx h hv
  obtain ⟨k, hkk⟩ : ∃ k, k = xs.idxOf (v : Int) := ⟨_, rfl⟩
  rw [← hkk] at hk e
  rw [later_at hA h hk e] at hi hj
  have h3 : fillX A (xs.take (k + 1)) i j = true := by
    rw [take_snoc hk, fillX_snoc]
    unfold cliqueA
    rw [← take_snoc hk, e, Int.toNat_natCast, hi, hj]
    have : (i != j) = true := by rw [bne_iff_ne]; exact hij
    rw [this]; simp
  have h4 : ∀ m, k + 1 ≤ m → m ≤ xs.length → fillX A (xs.take m) i j = true := by
    intro m
    induction m with
    | zero => intro h1 _; omega
    | succ m ihm =>
      intro h1 h2
      by_cases e2 : k = m
      · subst e2; exact h3
      · rw [take_snoc (by omega)]; exact fillX_more _ _ _ (ihm (by omega) (by omega))
  have h5 := h4 xs.length (by omega) (Nat.le_refl _)
  rwa [List.take_length] at h5
theorem fill_may {A : Nat → Nat → Bool} {n : Nat} (hA : RelP n A) (hn : n ≤ 16) {xs : List Int} (h : OrdP xs n) {ys : List Int} (hl : ys.length < n) : ∃ v, v < n ∧ mayGo (fillX A xs) ys v = true := by
  obtain ⟨v0, hv0, hf0⟩ := free_some hl
  obtain ⟨hp0, hq0⟩ := ordP_idx h hv0
  obtain ⟨i, hi, hpi, hmin⟩ := first_out (xs := xs) (fun i => hasB ys (nth xs i) = false) ⟨_, hp0, by rw [hq0]; exact hf0⟩
  obtain ⟨v, hv, ev⟩ := ordP_at h hi
  rw [ev] at hpi
  refine ⟨v, hv, ?_⟩
  unfold mayGo
  rw [hpi]
  have hF := fillX_rel hA xs
  have hlat : ∀ u, leftB (fillX A xs) ys v u = true → laterA A xs v u = true := by
    intro u hu
    unfold leftB at hu
    rw [Bool.and_eq_true] at hu
    have hun := (hF.range v u hu.1).2
    obtain ⟨pu, qu⟩ := ordP_idx h hun
    have pv := ordP_pos h hi
    rw [ev] at pv
    unfold laterA behB
    rw [hu.1, Bool.true_and, decide_eq_true_iff, pv]
    rcases Nat.lt_trichotomy i (xs.idxOf (u : Int)) with e | e | e
    · exact e
    · exfalso
      rw [← e, ev] at qu
      have : v = u := by omega
      subst this
      rw [hF.self] at hu; exact absurd hu.1 (by simp)
    · exfalso
      refine hmin _ e ?_
      show hasB ys (nth xs (xs.idxOf (u : Int))) = false
      rw [qu]
      have h2 := hu.2
      rw [Bool.not_eq_true'] at h2
      exact h2
  have hz : missN (fillX A xs) (listM (pm (leftB (fillX A xs) ys v))) = 0 := by
    refine missN_zero (fun i k hki hil => ?_)
    have hb : ∀ q, q < (listM (pm (leftB (fillX A xs) ys v))).length → leftB (fillX A xs) ys v (vtxN (listM (pm (leftB (fillX A xs) ys v))) q) = true := by
      intro q hq
      obtain ⟨u, h1, h2, h3⟩ := (listM_mem _ _).1 (nth_mem hq)
      rw [pm_bit, Bool.and_eq_true] at h2
      unfold vtxN
      rw [← h3, Int.toNat_natCast]
      exact h2.2
    refine later_pair hA h hv (hlat _ (hb k (by omega))) (hlat _ (hb i hil)) (fun e => ?_)
    have := vtx_inj (by omega) hil e
    omega
  rw [hz]; rfl
theorem fill_po {A : Nat → Nat → Bool} {n : Nat} (hA : RelP n A) (hn : n ≤ 16) {xs : List Int} (h : OrdP xs n) : pfB (fillX A xs) n = true := by
  have key : ∀ k, k ≤ n → (poS (fillX A xs) n k).length = k := by
    intro k
    induction k with
    | zero => intro _; rfl
    | succ k ih =>
      intro hk
      have h1 := ih (by omega)
      obtain ⟨v, hv, hp⟩ := fill_may hA hn h (ys := poS (fillX A xs) n k) (by omega)
      rw [poS, if_pos (findTo_some hv hp), List.length_append, List.length_singleton, h1]
  unfold pfB
  rw [decide_eq_true_iff]
  exact key n (Nat.le_refl _)

end Go.Proofs.YtohjfcfcopbmoaaGreatDoor
