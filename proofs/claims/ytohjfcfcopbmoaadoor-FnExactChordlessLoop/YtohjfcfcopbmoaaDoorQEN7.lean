/- The texts EN7, EN8, joined. -/
import Derived.Test.YtohjfcfcopbmoaaDoorQEN3
import Derived.Test.YtohjfcfcopbmoaaDoorQY1
import Derived.Test.YtohjfcfcopbmoaaDoorQF1
import Derived.Deep.RegionHeld3

/- Walks: the first list by which a graph stands for a pattern. -/
namespace Go.Proofs.YtohjfcfcopbmoaaDoor
open Go.RowKit Go.Shelf
attribute [local go_sem] Oper.semAt_some

theorem eqn_in (d : Nat) (a : Option Addr) (n c : Nat) (w : World) : (Op.equalIn (d + 1) 26 (.slice a n c) (.slice none 0 0)).run Tryd.prog w = .ok a.isNone w := by
  cases a <;> simp [Op.equalIn, run_underlying Tryd.underlying26]
theorem eqn_nil (a : Option Addr) (n c : Nat) (w : World) : (Op.equal 26 (.slice a n c) (.slice none 0 0)).run Tryd.prog w = .ok a.isNone w := eqn_in 9999 a n c w
theorem eqn_no (a : Addr) (n c : Nat) (w : World) : (binOp .eql 26 (.slice (some a) n c) (.slice none 0 0)).run Tryd.prog w = .ok (.bool false) w := by
  simp [binOp, eqn_nil]
theorem eqn_yes (w : World) : (binOp .eql 26 (.slice none 0 0) (.slice none 0 0)).run Tryd.prog w = .ok (.bool true) w := by
  simp [binOp, eqn_nil]

set_option maxHeartbeats 1000000 in
theorem clone_any (b n c : Nat) (xs : List Int) (w : World) (hr : RowAt w (.slice (some ⟨b, 0, none⟩) n c) xs) (h1 : 1 ≤ xs.length) (h16 : xs.length ≤ 16) :
    Calls Tryd.prog 74 #[.slice (some ⟨b, 0, none⟩) n c] w (GaveRow w xs) := by
  obtain ⟨i0, hi, hz0, hz1, hz2⟩ := info_parts Tryd.infoI
  obtain ⟨b', o, c', e1, l1, l2, hc⟩ := hr.pos (by omega)
  simp only [Value.slice.injEq, Option.some.injEq, Addr.mk.injEq, and_true] at e1
  obtain ⟨⟨rfl, rfl⟩, rfl, rfl⟩ := e1
  have hq := eqn_no ⟨b, 0, none⟩ xs.length c
  have HI := Lib.hid hr.1
  have hown0 : (w.alloc (.cells #[] 2)).ownsRow w.heap.size 2 1 (.slice (some ⟨w.heap.size, 0, none⟩) 0 0) 0 [] := World.ownsRow_lit w #[] 0 (Nat.le_refl _) (Nat.zero_le _) rfl
  have HO0 := Lib.hid hown0
  have HNEW : Hid (∀ j u, (xs.map (Value.int .i64))[j]? = some u → (w.alloc (.cells #[] 2)).cell? ((⟨b, 0, none⟩ : Addr).add j) = some u) := fun j u hj => by
    rw [List.getElem?_map] at hj
    cases hx : xs[j]? with
    | none => rw [hx] at hj; simp at hj
    | some y =>
      rw [hx] at hj
      simp at hj
      obtain ⟨hlt, e⟩ := List.getElem?_eq_some_iff.1 hx
      have := cell_keep ((Below.refl w.heap.size w).alloc (Nat.le_refl _) (.cells #[] 2)) (hc j hlt)
      rw [nth_eq hlt, e, hj] at this
      rw [Addr.add_lit]; exact this
  clear hr hown0 hc
  go_enter Tryd.func74, Tryd.ntmps74
  go_wp2_with (at_builtin; refine wpList_append_own _ rfl (.tmp 5) (.tmp 6) 26 rfl w.heap.size 2 i0 (.int .i64 0) 1 8 Tryd.underlying26 hi hz0 hz1 hz2 rfl (by decide) _ _ _ rfl HO0.out ⟨b, 0, none⟩ xs.length c (xs.map (Value.int .i64)) rfl (by simp) HNEW.out (ints_one _) (by unfold maxLen; omega) (by omega) (by simp) ?_)
  intro v6 w6 hown6 hgrow6 _
  have hb6 : Below w.heap.size w w6 := ((Below.refl _ _).alloc (Nat.le_refl _) _).grown hgrow6 (by simp) (fun j hj => by simp [Value.ownBlock] at hj; omega)
  have ho6 : OwnRow 2 w6 w.heap.size v6 xs := OwnRow.of_ownsRow (n := 0 + xs.length) (by simpa using hown6) (by unfold maxLen; omega) HI.out
  obtain ⟨a6, c6, e6⟩ := ho6.row.slice
  subst e6
  have HB6 := Lib.hid hb6
  have HO6 := Lib.hid ho6
  clear hown6 hgrow6 hb6 ho6 hq
  go_wp2
  go_ret
  exact ⟨_, _, _, rfl, HO6.out, HB6.out⟩

theorem OwnRow.kept2 {T : TypeId} {w w' : World} {B : Nat} {v : Value} {xs : List Int} (h : OwnRow T w B v xs) (hk : ∀ (k : Nat) (cs : Array Value) (fr : Nat × Nat), w.heap[k]? = some (Obj.cells cs T fr) → w'.heap[k]? = some (Obj.cells cs T fr)) : OwnRow T w' B v xs := by
  obtain ⟨h1, h2, h3⟩ := h
  refine ⟨h1, h2, ?_⟩
  rcases h3 with h3 | ⟨g, cap, cur, e, hg, hh, r⟩
  · exact Or.inl h3
  · exact Or.inr ⟨g, cap, cur, e, hg, hk _ _ _ hh, r⟩
/-- A row of one's own, and a yes or no. -/
def GaveFB (w : World) (xs : List Int) (ok : Bool) (e : Ending) (w' : World) : Prop :=
  ∃ m a c, e = .returned (.tuple #[.slice a m c, .bool ok]) ∧ OwnRow 2 w' w.heap.size (.slice a m c) xs ∧ Below w.heap.size w w'

/-- The lists that leastFit goes through. -/
def turnsL (Mp : Nat → Nat) (np n : Nat) (M : Nat → Nat) : List (List Int) := enumL (turnN (wiseN (patM Mp) np n (hostM M)) n (twN M n)) np []

theorem ChoiceAt.later {T : Nat → Prop} {w w' : World} {cf : Nat} {lb : Array Value} {sz : Nat} {C : List Int → Nat} (h : ChoiceAt T w cf lb sz C) (hk : KeepsBut T w w') : ChoiceAt T w' cf lb sz C :=
  fun W v xs hW hr hx hl => h W v xs (hk.trans hW) hr hx hl

/-- Nothing is found yet. -/
def FitI (w : World) (pre : List (List Int)) (W : World) : Prop :=
  pre = [] ∧ W.heap[w.heap.size]? = some (.cells #[.slice none 0 0] 26 (0, 0)) ∧ W.heap[w.heap.size + 1]? = some (.cells #[.bool false] 4 (0, 0)) ∧ Below w.heap.size w W
/-- A list is found. -/
def FitD (w : World) (xs : List Int) (W : World) : Prop :=
  ∃ val, W.heap[w.heap.size]? = some (.cells #[val] 26 (0, 0)) ∧ W.heap[w.heap.size + 1]? = some (.cells #[.bool true] 4 (0, 0)) ∧ OwnRow 2 W w.heap.size val xs ∧ Below w.heap.size w W
theorem FitD.put {w : World} {xs : List Int} {A : World} {l : Nat} {ob : Obj} (h : FitD w xs A) (hl : w.heap.size ≤ l) (ho : A.heap[l]? = some ob) (hob : ∀ cs U fr, ob ≠ Obj.cells cs U fr) (o : Obj) : FitD w xs (A.putObj l o) := by
  obtain ⟨val, h3, h4, h5, h6⟩ := h
  have hk : ∀ (k : Nat) (cs : Array Value) (U : TypeId) (fr : Nat × Nat), A.heap[k]? = some (Obj.cells cs U fr) → (A.putObj l o).heap[k]? = some (Obj.cells cs U fr) := fun k cs U fr hh => by
    refine (World.putObj_heap_other (fun e => ?_)).trans hh
    subst e; rw [ho] at hh; exact hob _ _ _ (Option.some.inj hh)
  exact ⟨val, hk _ _ _ _ h3, hk _ _ _ _ h4, h5.kept2 (fun k cs fr => hk k cs _ fr), h6.trans (below_put A l o hl (Array.getElem?_eq_some_iff.1 ho).1)⟩

end Go.Proofs.YtohjfcfcopbmoaaDoor

/- Plain facts: the first list in which twins come in turn is the first of all. -/
namespace Go.Proofs.YtohjfcfcopbmoaaDoor

theorem twin_iff {M : Nat → Nat} (hM : ∀ i, M i < 65536) {u v : Nat} (hu : u < 16) (hv : v < 16) : twinB M u v = true ↔ ∀ x, x ≠ u → x ≠ v → (M u).testBit x = (M v).testBit x := by
  unfold twinB
  have h1 := xor_lt (hM u) (hM v)
  rw [beq_iff_eq]
  constructor
  · intro h x hxu hxv
    have : (clrM (clrM (M u ^^^ M v) (2 ^ u)) (2 ^ v)).testBit x = false := by rw [h]; simp
    rw [clrM_bit (clrM_lt _ h1) (pow_lt16 hv), clrM_bit h1 (pow_lt16 hu), Nat.testBit_two_pow, Nat.testBit_two_pow, Nat.testBit_xor, decide_eq_false (by omega), decide_eq_false (by omega)] at this
    simpa using this
  · intro h
    refine bit_ext fun x => ?_
    rw [clrM_bit (clrM_lt _ h1) (pow_lt16 hv), clrM_bit h1 (pow_lt16 hu), Nat.testBit_two_pow, Nat.testBit_two_pow, Nat.testBit_xor]
    by_cases hxu : x = u
    · subst hxu; simp
    · by_cases hxv : x = v
      · subst hxv; simp
      · rw [h x hxu hxv]; simp
/-- u for v, v for u. -/
def swN (u v x : Nat) : Nat := if x = u then v else if x = v then u else x
theorem swN_inj {u v a b : Nat} (h : swN u v a = swN u v b) : a = b := by
  unfold swN at h
  split at h
  · split at h
    · omega
    · split at h <;> omega
  · split at h
    · split at h
      · omega
      · split at h <;> omega
    · split at h
      · omega
      · split at h <;> omega
theorem swN_lt {u v x n : Nat} (hu : u < n) (hv : v < n) (hx : x < n) : swN u v x < n := by unfold swN; split; exact hv; split; exact hu; exact hx
theorem swN_near {A : Nat → Nat → Bool} (hA : ∀ a b, A a b = A b a) {u v : Nat} (ht : ∀ x, x ≠ u → x ≠ v → A u x = A v x) {a b : Nat} (hab : a ≠ b) : A (swN u v a) (swN u v b) = A a b := by
  unfold swN
  by_cases a1 : a = u
  · subst a1
    rw [if_pos rfl, if_neg (fun e => hab e.symm)]
    by_cases b1 : b = v
    · subst b1; rw [if_pos rfl]; exact hA _ _
    · rw [if_neg b1]; exact (ht b (fun e => hab e.symm) b1).symm
  · rw [if_neg a1]
    by_cases a2 : a = v
    · subst a2
      rw [if_pos rfl]
      by_cases b1 : b = u
      · subst b1; rw [if_pos rfl]; exact hA _ _
      · rw [if_neg b1, if_neg (fun e => hab e.symm)]; exact ht b b1 (fun e => hab e.symm)
    · rw [if_neg a2]
      by_cases b1 : b = u
      · subst b1; rw [if_pos rfl, hA a v, hA a b]; exact (ht a a1 a2).symm
      · rw [if_neg b1]
        by_cases b2 : b = v
        · subst b2; rw [if_pos rfl, hA a u, hA a b]; exact ht a a1 a2
        · rw [if_neg b2]
def swL (u v : Nat) (ys : List Int) : List Int := ys.map (fun x => ((swN u v x.toNat : Nat) : Int))
theorem swL_len (u v : Nat) (ys : List Int) : (swL u v ys).length = ys.length := by simp [swL]
theorem swL_nth {u v : Nat} {ys : List Int} {i : Nat} (h : i < ys.length) : nth (swL u v ys) i = ((swN u v (nth ys i).toNat : Nat) : Int) := by
  rw [nth_eq (by rw [swL_len]; exact h), nth_eq h]; simp [swL]
theorem swap_fits {P A : Nat → Nat → Bool} {m n : Nat} (hn : n ≤ 16) (hA : ∀ a b, A a b = A b a) {u v : Nat} (hu : u < n) (hv : v < n) (ht : ∀ x, x ≠ u → x ≠ v → A u x = A v x) {ys : List Int} (h : ys ∈ fitsL P m n A) : swL u v ys ∈ fitsL P m n A := by
  rw [fits_mem hn] at h ⊢
  obtain ⟨h1, h2⟩ := h
  refine ⟨by rw [swL_len]; exact h1, fun i hi => ?_⟩
  obtain ⟨a1, a2, a3, a4⟩ := h2 i hi
  rw [swL_nth (by omega)]
  have hx := swN_lt hu hv (x := (nth ys i).toNat) (by omega)
  refine ⟨by omega, by omega, fun j hj e => ?_, fun j hj => ?_⟩
  · obtain ⟨b1, _⟩ := h2 j (by omega)
    rw [swL_nth (by omega)] at e
    have := swN_inj (u := u) (v := v) (a := (nth ys j).toNat) (b := (nth ys i).toNat) (by omega)
    exact a3 j hj (by omega)
  · obtain ⟨b1, _⟩ := h2 j (by omega)
    rw [swL_nth (by omega), Int.toNat_natCast, Int.toNat_natCast, swN_near hA ht (fun e => a3 j hj (by omega))]
    exact a4 j hj
theorem listM_bit {m x : Nat} : (x : Int) ∈ listM m ↔ x < 16 ∧ m.testBit x = true := by
  rw [listM_mem]
  constructor
  · rintro ⟨i, h1, h2, h3⟩
    obtain rfl : i = x := by omega
    exact ⟨h1, h2⟩
  · rintro ⟨h1, h2⟩; exact ⟨x, h1, h2, rfl⟩
theorem turns_first {Mp : Nat → Nat} {np n : Nat} {M : Nat → Nat} (hn : n ≤ 16) (hM : ∀ i, M i < 65536) (hA : ∀ a b, hostM M a b = hostM M b a) :
    firstL (turnsL Mp np n M) = firstL (fitsL (patM Mp) np n (hostM M)) ∧ (turnsL Mp np n M = [] ↔ fitsL (patM Mp) np n (hostM M) = []) := by
  have hW := wise_enum (P := patM Mp) (m := np) (n := n) (A := hostM M) hn
  rw [← hW]
  refine firstL_narrow (fun zs v hv => ?_) (fun hne i _ hi => ?_)
  · obtain ⟨x, hx, hb, rfl⟩ := (listM_mem _ _).1 hv
    exact (listM_mem _ _).2 ⟨x, hx, ((turnN_bit (fun xs => wiseN_lt _ _ _ _ _)).1 hb).1, rfl⟩
  · simp only [List.length_nil, Nat.zero_add] at hi
    have hin := firstL_mem hne
    obtain ⟨z, hz⟩ : ∃ z, z = firstL (enumL (wiseN (patM Mp) np n (hostM M)) np []) := ⟨_, rfl⟩
    rw [← hz] at hin ⊢
    have hfit := hin
    rw [hW] at hfit
    obtain ⟨hlen, hall⟩ := (fits_mem hn).1 hfit
    have hst := (enum_mem.1 hin).2.2 i (Nat.zero_le _) (by simpa using hi)
    obtain ⟨v, hv16, hvb, hve⟩ := (listM_mem _ _).1 hst
    refine (listM_mem _ _).2 ⟨v, hv16, (turnN_bit (fun xs => wiseN_lt _ _ _ _ _)).2 ⟨hvb, ?_⟩, hve⟩
    refine Classical.not_not.1 fun hno => ?_
    obtain ⟨u, hu⟩ : ∃ u, (twN M n v &&& unN n (z.take i)).testBit u = true := by
      rcases Classical.em (∃ u, (twN M n v &&& unN n (z.take i)).testBit u = true) with h | h
      · exact h
      · exact absurd (bit_ext fun u => ⟨fun hu => absurd ⟨u, hu⟩ h, fun hu => by simp at hu⟩) hno
    rw [Nat.testBit_and, Bool.and_eq_true] at hu
    have hxi : InL (z.take i) := fun j hj => by
      rw [List.length_take] at hj
      rw [nth_take (by omega)]
      have := hall j (by omega)
      omega
    obtain ⟨hu1, hu2⟩ := hu
    rw [unN_bit hn hxi] at hu2
    have hvn : v < n := by have := (hall i hi).2.1; omega
    unfold twN at hu1
    rw [if_pos hvn, twRow_bit (by omega)] at hu1
    obtain ⟨huv, htw⟩ := hu1
    have ht := (twin_iff hM (by omega) hv16).1 htw
    have hs := swap_fits hn hA hu2.1 hvn ht hfit
    rw [← hW] at hs
    have hlt : LexLt (swL u v z) z := by
      refine ⟨i, by rw [swL_len]; omega, by omega, fun j hj => ?_, ?_⟩
      · rw [swL_nth (by omega)]
        have hj1 := hall j (by omega)
        have e1 : (nth z j).toNat ≠ u := fun e => by
          have := hu2.2
          rw [← Bool.not_eq_true, hasB_iff] at this
          exact this ⟨j, by rw [List.length_take]; omega, by rw [nth_take hj]; omega⟩
        have e2 : (nth z j).toNat ≠ v := fun e => (hall i hi).2.2.1 j hj (by omega)
        unfold swN
        rw [if_neg e1, if_neg e2]
        omega
      · rw [swL_nth (by omega), ← hve, Int.toNat_natCast]
        unfold swN
        rw [if_neg (by omega), if_pos rfl]
        omega
    rcases firstL_least (enum_sorted _ _) hs with e | e
    · rw [← hz] at e
      rw [e] at hlt
      exact lex_asymm hlt hlt
    · rw [← hz] at e
      exact lex_asymm hlt e
theorem host_row (L : List (List Int)) : hostM (rowM L) = adjB L := rfl
theorem pat_row {L : List (List Int)} (hG : GraphP L) : patM (rowM L) = adjB L := by
  funext i j
  exact adjB_sym hG j i
/-- What is found first, of two graphs. -/
theorem fit_first {Lp Lg : List (List Int)} (hp : GraphP Lp) (hg : GraphP Lg) : firstL (turnsL (rowM Lp) Lp.length Lg.length (rowM Lg)) = firstL (fitsL (adjB Lp) Lp.length Lg.length (adjB Lg)) ∧ (turnsL (rowM Lp) Lp.length Lg.length (rowM Lg) = [] ↔ fitsL (adjB Lp) Lp.length Lg.length (adjB Lg) = []) := by
  have hz := hg.1
  have := turns_first (Mp := rowM Lp) (np := Lp.length) (n := Lg.length) (M := rowM Lg) hz.2 (fun i => rowM_lt (by omega) (fun v hv => (hg.2.1 v hv).1) i) (fun a b => adjB_sym hg a b)
  rwa [pat_row hp, host_row] at this

end Go.Proofs.YtohjfcfcopbmoaaDoor
