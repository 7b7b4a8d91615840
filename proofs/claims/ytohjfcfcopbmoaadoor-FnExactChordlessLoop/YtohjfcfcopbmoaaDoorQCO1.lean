/- The texts CO1, CO2, CS1, CS2, joined. -/
import Derived.Test.YtohjfcfcopbmoaaDoorQM4
import Derived.Test.YtohjfcfcopbmoaaDoorQG1
import Derived.Test.YtohjfcfcopbmoaaDoorQC1
import Derived.Test.YtohjfcfcopbmoaaDoorQF6
import Derived.Test.YtohjfcfcopbmoaaDoorQCX6
import Derived.Test.YtohjfcfcopbmoaaDoorQEL1
import Derived.BigQuiet

/- Walks: the adjacency code, of the model. -/
namespace Go.Proofs.YtohjfcfcopbmoaaDoor
open Go.RowKit

/-- 1 or 0. -/
def flagI (b : Bool) : Int := if b then 1 else 0
theorem flagI_rng (b : Bool) : 0 ≤ flagI b ∧ flagI b ≤ 1 := by cases b <;> simp [flagI]
/-- What the vertex v adds to the code behind the first k of xs. -/
def codeRow (A : Nat → Nat → Bool) (xs : List Int) (v : Int) (k : Nat) : List Int := (xs.take k).map (fun u => flagI (A u.toNat v.toNat))
theorem codeRow_zero (A : Nat → Nat → Bool) (xs : List Int) (v : Int) : codeRow A xs v 0 = [] := by simp [codeRow]
theorem codeRow_succ (A : Nat → Nat → Bool) {xs : List Int} (v : Int) {k : Nat} (h : k < xs.length) : codeRow A xs v (k + 1) = codeRow A xs v k ++ [flagI (A (nth xs k).toNat v.toNat)] := by
  unfold codeRow
  simp only [List.take_add_one, List.getElem?_eq_getElem h, Option.toList_some, List.map_append, List.map_cons, List.map_nil, nth_eq h]
theorem codeRow_len (A : Nat → Nat → Bool) (xs : List Int) (v : Int) (k : Nat) : (codeRow A xs v k).length ≤ k := by simp [codeRow]; omega
theorem codeRow_rng (A : Nat → Nat → Bool) (xs : List Int) (v : Int) (k : Nat) : ∀ x ∈ codeRow A xs v k, 0 ≤ x ∧ x ≤ 1 := by
  intro x hx
  unfold codeRow at hx
  rw [List.mem_map] at hx
  obtain ⟨u, _, rfl⟩ := hx
  exact flagI_rng _
/-- The code of the first j of xs. -/
def codeTo (A : Nat → Nat → Bool) (xs : List Int) : Nat → List Int
  | 0 => []
  | j + 1 => codeTo A xs j ++ codeRow A xs (nth xs j) j
theorem codeTo_len (A : Nat → Nat → Bool) (xs : List Int) (j : Nat) : (codeTo A xs j).length ≤ j * j := by
  induction j with
  | zero => simp [codeTo]
  | succ j ih =>
    rw [codeTo, List.length_append, Nat.succ_mul, Nat.mul_succ]
    have := codeRow_len A xs (nth xs j) j
    omega
theorem codeTo_rng (A : Nat → Nat → Bool) (xs : List Int) (j : Nat) : ∀ x ∈ codeTo A xs j, 0 ≤ x ∧ x ≤ 1 := by
  induction j with
  | zero => intro x hx; simp [codeTo] at hx
  | succ j ih =>
    intro x hx
    rw [codeTo, List.mem_append] at hx
    rcases hx with hx | hx
    · exact ih x hx
    · exact codeRow_rng _ _ _ _ x hx
theorem codeTo_small (A : Nat → Nat → Bool) (xs : List Int) {j : Nat} (h : j ≤ 16) : (codeTo A xs j).length ≤ 256 := Nat.le_trans (codeTo_len A xs j) (Nat.le_trans (Nat.mul_le_mul h h) (by decide))
theorem code_i64 {A : Nat → Nat → Bool} {xs : List Int} {j k : Nat} {v : Int} : ∀ x ∈ codeTo A xs j ++ codeRow A xs v k, I64 x := by
  intro x hx
  have : 0 ≤ x ∧ x ≤ 1 := by
    rcases List.mem_append.1 hx with h | h
    · exact codeTo_rng _ _ _ x h
    · exact codeRow_rng _ _ _ _ x h
  unfold I64
  omega
/-- What CodeOf answers. -/
def codeL (L : List (List Int)) : List Int := if GraphP L then codeTo (adjB L) (allL L.length) L.length else []
theorem codeL_small (L : List (List Int)) : (codeL L).length ≤ 1048576 := by
  unfold codeL
  split
  · rename_i h
    have := codeTo_small (adjB L) (allL L.length) h.1.2
    omega
  · simp
theorem allL_nth {n k : Nat} (h : k < n) : nth (allL n) k = (k : Int) := by
  rw [nth_eq (by rw [allL_len]; exact h)]
  simp [allL]

theorem lit1 (w : World) (x : Int) (T : TypeId) : ∀ j u, ([Value.int .i64 x] : List Value)[j]? = some u → (w.alloc (.cells #[.int .i64 x] T)).cell? ((⟨w.heap.size, 0, none⟩ : Addr).add j) = some u := by
  intro j u hj
  match j, hj with
  | 0, hj => simp at hj; subst hj; simp [Addr.add]
theorem one1 (x : Int) : ∀ u ∈ ([Value.int .i64 x] : List Value), u.oneCell' = true := by
  intro u hu; simp at hu; subst hu; rfl

theorem l1Flag_any (b : Bool) (w : World) : Calls Tryd.prog 64 #[.bool b] w fun e w' => e = .returned (.int .i64 (flagI b)) ∧ w = w' := by
  cases b with
  | true =>
    go_enter Tryd.func64, Tryd.ntmps64
    go_wp2
    go_ret
    exact ⟨rfl, rfl⟩
  | false =>
    go_enter Tryd.func64, Tryd.ntmps64
    go_wp2
    go_ret
    exact ⟨rfl, rfl⟩

end Go.Proofs.YtohjfcfcopbmoaaDoor

/- Walks: the adjacency code, of the program. -/
namespace Go.Proofs.YtohjfcfcopbmoaaDoor
open Go.RowKit

/-- Who is near whom, by masks. -/
def mA (M : Nat → Nat) (a b : Nat) : Bool := (M a).testBit b

theorem listTo_all (n k : Nat) : listTo (2 ^ n - 1) k = allL (min k n) := by
  induction k with
  | zero => simp [allL, listTo]
  | succ k ih =>
    rw [listTo_succ, ih, Nat.testBit_two_pow_sub_one]
    by_cases h : k < n
    · rw [decide_eq_true h, show min (k + 1) n = k + 1 from by omega, show min k n = k from by omega, allL_succ]
      rfl
    · rw [decide_eq_false h, show min (k + 1) n = n from by omega, show min k n = n from by omega]
      simp
theorem listM_all {n : Nat} (hn : n ≤ 16) : listM (2 ^ n - 1) = allL n := by
  show listTo _ 16 = _
  rw [listTo_all, show min 16 n = n from by omega]

/-- The first k cells of a slice, by a slice expression. -/
theorem rowAt_take {w : World} {v : Value} {xs : List Int} (h : RowAt w v xs) {b o c k : Nat} (e : v = .slice (some ⟨b, o, none⟩) xs.length c) (hk : k ≤ xs.length) : ∀ i, i < k → w.cell? ⟨b, o + i, none⟩ = some (.int .i64 (nth xs i)) := by
  intro i hi
  obtain ⟨b', o', c', e', _, _, hc⟩ := h.pos (by omega)
  rw [e] at e'
  simp only [Value.slice.injEq, Option.some.injEq, Addr.mk.injEq, and_true, true_and] at e'
  obtain ⟨⟨rfl, rfl⟩, rfl⟩ := e'
  exact hc i (by omega)

end Go.Proofs.YtohjfcfcopbmoaaDoor

/- Walks: how many of a list are near a vertex, of the model. -/
namespace Go.Proofs.YtohjfcfcopbmoaaDoor
open Go.RowKit

/-- How many of the first k of a path are near v. -/
def nearTo (A : Nat → Nat → Bool) (path : List Int) (v k : Nat) : Nat := sumTo (fun i => if A (vtxN path i) v then 1 else 0) k
theorem nearTo_le (A : Nat → Nat → Bool) (path : List Int) (v k : Nat) : nearTo A path v k ≤ k := by
  induction k with
  | zero => exact Nat.le_refl _
  | succ k ih =>
    unfold nearTo at ih ⊢
    rw [sumTo]
    split <;> omega

set_option maxHeartbeats 2000000 in
set_option maxRecDepth 100000 in
theorem l8Near_any (v v1 : Value) (L : List (List Int)) (xs : List Int) (u : Nat) (w : World) (hG : GraphP L) (h : GridAt w v L) (h1 : RowAt w v1 xs) (hlen : xs.length ≤ 16) (hu : u < 16)
    (hx : ∀ i, i < xs.length → ∃ u : Nat, u < L.length ∧ nth xs i = (u : Int)) :
    Calls Tryd.prog 40 #[.agg #[v], v1, .int .i64 (u : Int)] w fun e w' => e = .returned (.int .i64 ((nearC (adjB L) xs u : Nat) : Int)) ∧ Below w.heap.size w w' := by
  obtain ⟨a0, c0, rfl⟩ := h.slice
  obtain ⟨a1, c1, rfl⟩ := h1.slice
  have HGK : Hid (∀ w', Below w.heap.size w w' → GridAt w' (.slice a0 L.length c0) L) := fun w' hb => h.keep hb
  have HRK : Hid (∀ w', Below w.heap.size w w' → RowAt w' (.slice a1 xs.length c1) xs) := fun w' hb => h1.keep hb
  have HB0 : Hid (Below w.heap.size w (w.alloc (.cells #[.slice a0 L.length c0] 29))) := (Below.refl _ _).alloc (Nat.le_refl _) _
  have HX0 : Hid (BoxAt (w.alloc (.cells #[.slice a0 L.length c0] 29)) w.heap.size (.slice a0 L.length c0)) := BoxAt.new _ _ _
  have HX := Lib.hid hx
  have HGP := Lib.hid hG
  clear h h1 hx hG
  go_enter Tryd.func40, Tryd.ntmps40
  go_wp2_with fail
  go_loopw [7, 8] (fun s i wr => ∃ k : Nat, k ≤ xs.length ∧ i = .int .i64 k ∧ s = .int .i64 ((nearTo (adjB L) xs u k : Nat) : Int) ∧ BoxAt wr w.heap.size (.slice a0 L.length c0) ∧ Below w.heap.size w wr) (fun _ i _ => xs.length - (intOf i).toNat)
  case atStart => exact ⟨0, Nat.zero_le _, rfl, rfl, HX0.out, HB0.out⟩
  case round =>
    obtain ⟨k, hk, rfl, rfl, hbx, hb⟩ := hrel
    have HX4 := Lib.hid hbx
    have HB4 := Lib.hid hb
    have hbd := nearTo_le (adjB L) xs u k
    by_cases hlt : k < xs.length
    · obtain ⟨x, hxn, hxe⟩ := HX.out k hlt
      obtain ⟨bx, ox, cx, ex, lx1, lx2, hcx⟩ := (HRK.out _ hb).pos (by omega)
      simp only [Value.slice.injEq, true_and] at ex
      obtain ⟨rfl, rfl⟩ := ex
      have kk := hcx k hlt
      have kb := hbx.1
      rw [hxe] at kk
      have hvk : vtxN xs k = x := by unfold vtxN; rw [hxe, Int.toNat_natCast]
      have hbe : hasB (nthR L x) (u : Int) = adjB L x u := adjB_has HGP.out hxn hu
      have HS : Hid (nearTo (adjB L) xs u (k + 1) = nearTo (adjB L) xs u k + (if adjB L x u then 1 else 0)) := by
        show _ = _
        unfold nearTo
        rw [sumTo, hvk]
      obtain ⟨s, hs⟩ : ∃ s, s = nearTo (adjB L) xs u k := ⟨_, rfl⟩
      obtain ⟨t, ht⟩ : ∃ t, t = adjB L x u := ⟨_, rfl⟩
      rw [← hs] at hbd HS ⊢
      rw [← ht] at HS hbe
      have hcall : Hid (∀ z : Later wr, Calls Tryd.prog 42 #[.agg #[.slice a0 L.length c0], .int .i64 (x : Int), .int .i64 (u : Int)] z.at fun e w5 => e = .returned (.bool t) ∧ ∃ t : Later wr, w5 = t.at) :=
        fun z => Calls.later ((l1Edge_any _ L (x : Int) (u : Int) _ (HGK.out _ (HB4.out.trans (z.bel.mono HB4.out.size))) (by omega) (by omega)).mono fun _ _ ⟨h1, h2⟩ => ⟨by rw [h1, Int.toNat_natCast, hbe], h2⟩)
      have hflag : Hid (∀ z : Later wr, Calls Tryd.prog 64 #[.bool t] z.at fun e w5 => e = .returned (.int .i64 (flagI t)) ∧ ∃ t : Later wr, w5 = t.at) :=
        fun z => (l1Flag_any t z.at).mono fun _ _ ⟨h1, h2⟩ => ⟨h1, z, h2.symm⟩
      have hfl : flagI t = ((if t then 1 else 0 : Nat) : Int) := by cases t <;> rfl
      have HFL := Lib.hid hfl
      have hfr := flagI_rng t
      have kl := fun z : Later wr => z.cell kb
      have kl1 := fun z : Later wr => z.cell kk
      have hkI : (k : Int) < (xs.length : Int) := by omega
      obtain ⟨f, hf⟩ : ∃ f, f = flagI t := ⟨_, rfl⟩
      rw [← hf] at hfr HFL hflag
      clear hbx hb hcx kk kb hbe hvk hxe hs ht hf hfl
      go_wp2_with fail
      refine wp_region_later (by kernel_rfl) (by kernel_rfl) ?_
      repeat (go_big_quiet_step (first | (go_at_call 42; exact hcall.out _) | (go_at_call 64; exact hflag.out _)))
      refine wpQuiet_nil ?_
      rintro _ ⟨z, rfl⟩
      have hx5 := HX4.out.keep z.bel
      have hb5 : Below w.heap.size w z.at := HB4.out.trans (z.bel.mono HB4.out.size)
      generalize z.at = w5 at hx5 hb5 ⊢
      have HX5 := Lib.hid hx5
      have HB5 := Lib.hid hb5
      clear kl kl1 hcall hflag hx5 hb5
      go_wp2
      go_roundw
      case rel => exact ⟨k + 1, by omega, by go_num, by rw [HS.out, HFL.out]; go_num, HX5.out, HB5.out⟩
      case measure => simp [intOf]; omega
    · obtain rfl : k = xs.length := by omega
      go_wp2
      go_ret
      exact ⟨rfl, HB4.out⟩

end Go.Proofs.YtohjfcfcopbmoaaDoor

/- Walks: which of two lists is less, of the model. -/
namespace Go.Proofs.YtohjfcfcopbmoaaDoor
open Go.RowKit

open Classical in
/-- Is one less? -/
noncomputable def ltB (xs ys : List Int) : Bool := decide (ltR xs ys)
theorem ltB_iff (xs ys : List Int) : ltB xs ys = true ↔ ltR xs ys := by
  classical
  unfold ltB
  exact decide_eq_true_iff
theorem ltB_of {xs ys : List Int} {b : Bool} (h : ltR xs ys ↔ b = true) : ltB xs ys = b := by
  cases b with
  | true => exact (ltB_iff _ _).2 (h.2 rfl)
  | false =>
    cases hq : ltB xs ys with
    | false => rfl
    | true => exact absurd (h.1 ((ltB_iff _ _).1 hq)) (by simp)
theorem ltB_at {xs ys : List Int} (hl : xs.length = ys.length) {k : Nat} (hk : k < xs.length) (heq : ∀ j, j < k → nth xs j = nth ys j) (hne : nth xs k ≠ nth ys k) : ltB xs ys = decide (nth xs k < nth ys k) := by
  refine ltB_of ?_
  rw [decide_eq_true_iff]
  constructor
  · rintro (g | ⟨_, i, hi, hp, hx⟩)
    · omega
    · rcases Nat.lt_trichotomy i k with e | e | e
      · have := heq i e; omega
      · subst e; exact hx
      · exact absurd (hp k e) hne
  · intro h
    exact Or.inr ⟨hl, k, hk, heq, h⟩
theorem ltB_end {xs ys : List Int} (heq : ∀ j, j < xs.length → nth xs j = nth ys j) (hl : xs.length = ys.length) : ltB xs ys = false := by
  refine ltB_of ?_
  constructor
  · rintro (g | ⟨_, i, hi, hp, hx⟩)
    · omega
    · have := heq i hi; omega
  · intro h; cases h
theorem ltB_len {xs ys : List Int} (hl : xs.length ≠ ys.length) : ltB xs ys = decide (xs.length < ys.length) := by
  refine ltB_of ?_
  rw [decide_eq_true_iff]
  constructor
  · rintro (g | ⟨g, _⟩)
    · exact g
    · exact absurd g hl
  · exact Or.inl

set_option maxHeartbeats 2000000 in
theorem l1LessR_any (v v1 : Value) (xs ys : List Int) (w : World) (h : RowAt w v xs) (h1 : RowAt w v1 ys) :
    Calls Tryd.prog 43 #[v, v1] w fun e w' => e = .returned (.bool (ltB xs ys)) ∧ Drawn w w' := by
  obtain ⟨a0, c0, rfl⟩ := h.slice
  obtain ⟨a1, c1, rfl⟩ := h1.slice
  by_cases hl : xs.length = ys.length
  · have HC : Hid (∀ j, j < xs.length → ∃ b o b1 o1, a0 = some ⟨b, o, none⟩ ∧ a1 = some ⟨b1, o1, none⟩ ∧ w.cell? ⟨b, o + j, none⟩ = some (.int .i64 (nth xs j)) ∧ w.cell? ⟨b1, o1 + j, none⟩ = some (.int .i64 (nth ys j))) := fun j hj => by
      obtain ⟨b, o, c, e0, l1, l2, hc⟩ := h.pos (by omega)
      obtain ⟨b1, o1, c1', e1, m1, m2, hc1⟩ := h1.pos (by omega)
      simp only [Value.slice.injEq, true_and] at e0 e1
      exact ⟨b, o, b1, o1, e0.1, e1.1, hc j hj, hc1 j (by omega)⟩
    have HL := Lib.hid hl
    have HEND : Hid ((∀ j, j < xs.length → nth xs j = nth ys j) → ltB xs ys = false) := fun g => ltB_end g hl
    rw [← hl]
    have q1 : ((xs.length : Int) != (xs.length : Int)) = false := by simp
    have hlm := h.len
    unfold maxLen at hlm
    clear hl h h1
    go_enter Tryd.func43, Tryd.ntmps43
    go_wp2_with fail
    go_loopw [5] (fun iv wr => ∃ k : Nat, k ≤ xs.length ∧ iv = .int .i64 k ∧ (∀ j, j < k → nth xs j = nth ys j) ∧ Drawn w wr) (fun iv _ => xs.length - (intOf iv).toNat)
    case atStart => exact ⟨0, Nat.zero_le _, rfl, fun j hj => absurd hj (by omega), Drawn.refl _⟩
    case round =>
      obtain ⟨k, hk, rfl, heq, hd⟩ := hrel
      have HEQ := Lib.hid heq
      have HD := Lib.hid hd
      clear heq
      by_cases hkl : k < xs.length
      · obtain ⟨b, o, b1, o1, rfl, rfl, hx, hy⟩ := HC.out k hkl
        have hx' := cell_drawn hd hx
        have hy' := cell_drawn hd hy
        have HB : Hid (nth xs k ≠ nth ys k → ltB xs ys = decide (nth xs k < nth ys k)) := fun g => ltB_at HL.out hkl HEQ.out g
        have HE : Hid (nth xs k = nth ys k → ∀ j, j < k + 1 → nth xs j = nth ys j) := fun g j hj => by
          by_cases e : j = k
          · subst e; exact g
          · exact HEQ.out j (by omega)
        clear hx hy hd HC
        obtain ⟨y, hyy⟩ : ∃ y, y = nth xs k := ⟨_, rfl⟩
        obtain ⟨z, hzz⟩ : ∃ z, z = nth ys k := ⟨_, rfl⟩
        rw [← hyy, ← hzz] at HB HE
        rw [← hyy] at hx'
        rw [← hzz] at hy'
        clear hyy hzz
        by_cases hyz : y = z
        · subst hyz
          have q2 : (y != y) = false := by simp
          have HE2 := Lib.hid (HE.out rfl)
          clear HB HE
          go_wp2
          go_quiet (fail)
          go_wp2
          go_roundw
          case rel => exact ⟨k + 1, by omega, by go_num, HE2.out, HD.out.more _⟩
          case measure => simp [intOf]; omega
        · have q2 : (y != z) = true := by rw [bne_iff_ne]; exact hyz
          have HB2 := Lib.hid (HB.out hyz)
          clear HB HE
          go_wp2
          go_quiet (fail)
          go_wp2
          go_quiet (fail)
          go_wp2
          go_ret
          exact ⟨by rw [HB2.out]; rfl, (HD.out.more _).more _⟩
      · obtain rfl : k = xs.length := by omega
        have HN := Lib.hid (HEND.out HEQ.out)
        go_wp2
        go_ret
        exact ⟨by rw [HN.out]; rfl, HD.out⟩
  · have HLB := Lib.hid (ltB_len hl)
    have q1 : ((xs.length : Int) != (ys.length : Int)) = true := by rw [bne_iff_ne]; omega
    clear h h1
    go_enter Tryd.func43, Tryd.ntmps43
    go_wp2
    go_ret
    refine ⟨?_, Drawn.refl _⟩
    rw [HLB.out]
    rfl

end Go.Proofs.YtohjfcfcopbmoaaDoor
