/- The texts EqArr, C7, joined. -/
import Derived.WalkKit
import Derived.Laws.StructEq
import Derived.Test.YtohjfcfcopbmoaaGreatDoorQC1

/- Go's == on arrays of integers of one cell each, in the model's words. No statement of the program. -/
namespace Go.Proofs.YtohjfcfcopbmoaaGreatDoor
open Go.RowKit

section
variable {P : Program} (w : World)

theorem run_part_int {e : TypeId} {k : IntKind} (he : P.underlying e = some (.int k)) (cs : Array Value) (i : Nat) (v : Value) (h : cs[i]? = some v) : (part e cs i).run P w = .ok v w := by
  unfold part isAgg
  simp [Sem.run_bind, run_underlying he, h]

theorem run_equalIn_array {d len : Nat} {t e : TypeId} {k : IntKind} {i : TypeInfo} (ht : P.underlying t = some (.array len e)) (he : P.underlying e = some (.int k)) (hi : P.info? e = some i) (hs : i.size = 1) (xs ys : Array Value) (X Y : Nat → Int)
    (hx : ∀ j, j < len → xs[j]? = some (.int k (X j))) (hy : ∀ j, j < len → ys[j]? = some (.int k (Y j))) :
    (Op.equalIn (d + 2) t (.agg xs) (.agg ys)).run P w = .ok (decide (∀ j, j < len → X j = Y j)) w := by
  rw [Op.equalIn]
  simp only [Sem.run_bind, run_underlying ht, Result.andThen_ok]
  have hsz : (sizeOf e).run P w = .ok 1 w := by simp [sizeOf, typeInfo, hi, hs, Sem.run_bind]
  simp only [hsz, Result.andThen_ok, Nat.mul_one]
  rw [Std.Legacy.Range.forIn_eq_forIn_range']
  simp only [Std.Legacy.Range.size, Nat.sub_zero, Nat.add_sub_cancel, Nat.div_one]
  have key : ∀ (n s : Nat), s + n = len →
      ((forIn (List.range' s n) ((none, ()) : Option Bool × Unit) (fun j _ => do
          let a ← part e xs j
          let b ← part e ys j
          let r ← Op.equalIn (d + 1) e a b
          if (!r) = true then pure (ForInStep.done (some false, ())) else pure (ForInStep.yield (none, ()))) : Sem (Option Bool × Unit)).run P w) =
        .ok ⟨if (∀ j, j < len → s ≤ j → X j = Y j) then none else some false, ()⟩ w := by
    intro n
    induction n with
    | zero =>
      intro s hsn
      have : ∀ j, j < len → s ≤ j → X j = Y j := fun j h2 h1 => by omega
      rw [if_pos this]
      rfl
    | succ n ih =>
      intro s hsn
      rw [List.range'_succ, List.forIn_cons]
      simp only [Sem.run_bind, run_part_int w he xs s _ (hx s (by omega)), run_part_int w he ys s _ (hy s (by omega)), Result.andThen_ok, run_equalIn_int w d e k k _ _ he]
      by_cases hq : X s = Y s
      · have hb : (X s == Y s) = true := by simpa using hq
        simp only [hb, Bool.not_true, Bool.false_eq_true, if_false, Sem.run_pure, Result.andThen_ok]
        rw [ih (s + 1) (by omega)]
        have e2 : (∀ j, j < len → s + 1 ≤ j → X j = Y j) ↔ (∀ j, j < len → s ≤ j → X j = Y j) := by
          constructor
          · intro h j h2 h1
            by_cases e3 : j = s
            · subst e3; exact hq
            · exact h j h2 (by omega)
          · intro h j h2 h1; exact h j h2 (by omega)
        simp only [e2]
      · have hb : (X s == Y s) = false := by simpa using hq
        have hn : ¬ (∀ j, j < len → s ≤ j → X j = Y j) := fun h => hq (h s (by omega) (Nat.le_refl _))
        simp [hb, hn]
  have k0 := key len 0 (by omega)
  rw [k0]
  simp only [Result.andThen_ok]
  by_cases hq : ∀ j, j < len → X j = Y j
  · rw [if_pos (fun j h1 _ => hq j h1), decide_eq_true hq]
    rfl
  · rw [if_neg (fun h => hq (fun j h1 => h j h1 (Nat.zero_le _))), decide_eq_false hq]
    rfl

end
end Go.Proofs.YtohjfcfcopbmoaaGreatDoor

/- Walks: SameGraph, of the program. -/
namespace Go.Proofs.YtohjfcfcopbmoaaGreatDoor
open Go.RowKit

theorem Tryz.infoM : (Tryz.prog.info? 80).map (fun i => (i.zero, i.size, i.bytes)) = some (some (.int .u32 0), 1, 4) := by kernel_rfl
theorem Tryz.sizeArr : (Tryz.prog.info? 81).map (·.size) = some 16 := by kernel_rfl
theorem Tryz.stoodNet : Tryz.prog.stoodInHeld 83 = false := by kernel_rfl

theorem run_part_arr (w : World) (cs : Array Value) (i : Nat) : (part 81 cs i).run Tryz.prog w = .ok (.agg (cs.extract i (i + 16))) w := by
  have h := Tryz.sizeArr
  cases hq : Tryz.prog.info? 81 with
  | none => simp [hq] at h
  | some j =>
    have hs : j.size = 16 := by simpa [hq] using h
    unfold part isAgg
    simp [Sem.run_bind, run_underlying Tryz.underlying81, sizeOf, typeInfo, hq, hs]

/-- A strictly increasing list is known by its elements. -/
theorem set_ext {xs ys : List Int} {n : Nat} (hn : n ≤ 16) (hx : SetP xs n) (hy : SetP ys n) (h : ∀ u : Nat, u < 16 → hasB xs u = hasB ys u) : xs = ys := by
  have mono : ∀ {zs : List Int}, SetP zs n → ∀ j i, i < j → j < zs.length → nth zs i < nth zs j := by
    intro zs hz j
    induction j with
    | zero => intro i hi; omega
    | succ j ih =>
      intro i hi hj
      have h1 := (hz (j + 1) hj).2.2 (by omega)
      simp at h1
      by_cases e : i = j
      · subst e; exact h1
      · have := ih i (by omega) (by omega); omega
  have sub : ∀ {ps qs : List Int}, SetP ps n → (∀ u : Nat, u < 16 → hasB ps u = hasB qs u) → ∀ i, i < ps.length → ∃ j, j < qs.length ∧ nth qs j = nth ps i := by
    intro ps qs ha hab i hi
    have h1 := ha i hi
    obtain ⟨u, hu⟩ := Int.eq_ofNat_of_zero_le h1.1
    have h2 := hab u (by have := h1.2.1; omega)
    have h3 : hasB ps u = true := (hasB_iff _ _).2 ⟨i, hi, hu⟩
    rw [h3] at h2
    obtain ⟨j, hj, e⟩ := (hasB_iff _ _).1 h2.symm
    exact ⟨j, hj, by rw [e, hu]⟩
  have eqAt : ∀ i, i < xs.length → i < ys.length → nth xs i = nth ys i := by
    intro i
    induction i using Nat.strongRecOn with
    | _ i ih =>
      intro h1 h2
      obtain ⟨j, hj, e⟩ := sub hx h i h1
      obtain ⟨k, hk, e'⟩ := sub hy (fun u hu => (h u hu).symm) i h2
      rcases Nat.lt_trichotomy j i with hji | hji | hji
      · have e3 := ih j hji (by omega) hj
        have := mono hx i j hji h1
        omega
      · subst hji; exact e.symm
      · have h5 := mono hy j i hji hj
        rcases Nat.lt_trichotomy k i with hki | hki | hki
        · have e3 := ih k hki hk (by omega)
          have := mono hy i k hki h2
          omega
        · subst hki; exact e'
        · have := mono hx k i hki hk
          omega
  have lens : xs.length = ys.length := by
    rcases Nat.lt_trichotomy xs.length ys.length with hl | hl | hl
    · exfalso
      obtain ⟨k, hk, e⟩ := sub hy (fun u hu => (h u hu).symm) xs.length hl
      have e3 := eqAt k hk (by omega)
      have := mono hy xs.length k (by omega) hl
      omega
    · exact hl
    · exfalso
      obtain ⟨k, hk, e⟩ := sub hx h ys.length hl
      have e3 := eqAt k (by omega) hk
      have := mono hx ys.length k (by omega) hl
      omega
  exact nth_ext lens (fun i hi => eqAt i hi (by omega))

/-- Go's == on two nets. -/
def netEq (n n' : Nat) (M M' : Nat → Nat) : Bool := decide (n = n') && decide (∀ i : Nat, i < 16 → (M i : Int) = (M' i : Int))

set_option maxRecDepth 100000 in
theorem run_eql_net (n n' : Nat) (M M' : Nat → Nat) (w : World) : (binOp .eql 83 (.agg (netArr n M)) (.agg (netArr n' M'))).run Tryz.prog w = .ok (.bool (netEq n n' M M')) w := by
  have hu : Tryz.prog.underlying 83 = some (.struct (Tryz.prog.fieldsOf 83)) := by simp [Program.fieldsOf, Tryz.underlying83]
  obtain ⟨i0, hi, hz0, hz1, hz2⟩ := info_parts Tryz.infoM
  rw [run_eql_struct, run_equalIn_struct w 9999 83 _ _ hu Tryz.stoodNet]
  have p0 : ∀ (n : Nat) (M : Nat → Nat), (part 2 (netArr n M) 0).run Tryz.prog w = .ok (.int .i64 n) w := fun n M => run_part_int w Tryz.underlying2 _ _ _ (netArr_zero n M)
  have ex : ∀ (n : Nat) (M : Nat → Nat) (j : Nat), j < 16 → ((netArr n M).extract 1 (1 + 16))[j]? = some (.int .u32 (M j : Int)) := fun n M j hj => by
    rw [Array.getElem?_extract, if_pos (by rw [netArr_size]; omega), netArr_get n M j hj]
  have ha := run_equalIn_array (d := 9997) w Tryz.underlying81 Tryz.underlying80 hi hz1 ((netArr n M).extract 1 (1 + 16)) ((netArr n' M').extract 1 (1 + 16)) (fun i => (M i : Int)) (fun i => (M' i : Int)) (ex n M) (ex n' M')
  have h0 := run_equalIn_int w 9998 2 .i64 .i64 (n : Int) (n' : Int) Tryz.underlying2
  simp only [Nat.reduceAdd] at ha h0
  simp only [Program.fieldsOf, Tryz.underlying83, Op.eqFields, ne_eq, String.reduceEq, not_false_eq_true, if_true, Sem.run_bind, p0, Result.andThen_ok, h0]
  by_cases e0 : n = n'
  · subst e0
    by_cases e1 : ∀ i : Nat, i < 16 → (M i : Int) = (M' i : Int)
    · rw [decide_eq_true e1] at ha
      have hn : netEq n n M M' = true := by unfold netEq; rw [decide_eq_true e1]; simp
      rw [hn]
      simp [run_part_arr, ha]
    · rw [decide_eq_false e1] at ha
      have hn : netEq n n M M' = false := by unfold netEq; rw [decide_eq_false e1]; simp
      rw [hn]
      simp [run_part_arr, ha]
  · have b0 : ((n : Int) == (n' : Int)) = false := by simp; omega
    simp [b0, netEq, e0]

/-- Two valid graphs are equal just where their nets are. -/
theorem nets_same {L M : List (List Int)} (hL : GraphP L) (hM : GraphP M) : netEq L.length M.length (rowM L) (rowM M) = decide (L = M) := by
  unfold netEq
  by_cases hn : L.length = M.length
  · rw [decide_eq_true hn, Bool.true_and, Bool.eq_iff_iff, decide_eq_true_iff, decide_eq_true_iff]
    have sL : ∀ v, v < L.length → SetP (nthR L v) L.length := fun v hv => (hL.2.1 v hv).1
    have sM : ∀ v, v < M.length → SetP (nthR M v) M.length := fun v hv => (hM.2.1 v hv).1
    constructor
    · intro h
      apply nthR_ext hn
      intro v hv
      have h1 : rowM L v = rowM M v := by have := h v (by have := hL.1; omega); omega
      have key : ∀ u : Nat, u < 16 → hasB (nthR L v) u = hasB (nthR M v) u := fun u hu => by
        rw [← rowM_has sL hv hu, ← rowM_has sM (by omega) hu, h1]
      exact set_ext (n := L.length) (by have := hL.1; omega) (sL v hv) (by rw [hn]; exact sM v (by omega)) key
    · intro e i hi
      rw [e]
  · rw [decide_eq_false hn, Bool.false_and]
    symm
    rw [decide_eq_false_iff_not]
    intro e
    exact hn (by rw [e])

theorem cell_put {T : TypeId} {w w' : World} {o : Obj} {n : Nat} {M : Nat → Nat} (hp : NetPut T (w.alloc o) w' w.heap.size n M) {a : Addr} {v : Value} (h : w.cell? a = some v) : w'.cell? a = some v := cell_keep hp.since h

set_option maxHeartbeats 1600000 in
theorem implSameGraph_any (v v' : Value) (L M : List (List Int)) (w : World) (h : GridAt w v L) (h' : GridAt w v' M) :
    Calls Tryz.prog 19 #[.agg #[v], .agg #[v']] w fun e w' => e = .returned (.bool (sameB L M)) ∧ Below w.heap.size w w' := by
  obtain ⟨a0, c0, rfl⟩ := h.slice
  obtain ⟨a1, c1, rfl⟩ := h'.slice
  have ha : Below w.heap.size w ((w.alloc (.cells #[.slice a0 L.length c0] 26)).alloc (.cells #[.slice a1 M.length c1] 26)) := ((Below.refl _ _).alloc (Nat.le_refl _) _).alloc (by simp) _
  have R0 := Lib.hid (h.keep ha)
  have S0 := Lib.hid (h'.keep ha)
  have HA := Lib.hid ha
  clear ha h h'
  go_enter Tryz.func19, Tryz.ntmps19
  go_wp2_with fail
  refine (netOf_any _ _ _ R0.out).mono ?_
  rintro e w1 ⟨rfl, hb1⟩
  have kc1 : w1.cell? ⟨w.heap.size + 1, 0, none⟩ = some (.slice a1 M.length c1) := by rw [hb1.cell (by simp)]; go_simp
  have S1 := Lib.hid (S0.out.keep hb1)
  have HB1 : Hid (Below w.heap.size w w1) := HA.out.trans (hb1.mono (by simp; omega))
  have hz : w.heap.size ≤ w1.heap.size := HB1.out.size
  have hnb := netBlk_new w1 0 (fun _ => 0)
  clear hb1 HA R0 S0
  go_wp2_with (refine wpList_store_net rfl 83 (.tmp 5) (.tmp 12) rfl w1.heap.size (netN L) (netM L) rfl rfl Tryz.sizeNet 0 (fun _ => 0) hnb ?_; intro w3 hp; have kc3 := cell_put hp kc1; have HB3 : Hid (Below w.heap.size w w3) := (HB1.out.alloc hz _).trans (hp.below.mono hz); have N3 := Lib.hid hp.net; have S3 := Lib.hid (S1.out.keep hp.since); clear hp)
  refine (netOf_any _ _ _ S3.out).mono ?_
  rintro e w4 ⟨rfl, hb4⟩
  have N4 := Lib.hid (N3.out.keep hb4)
  have HB4 : Hid (Below w.heap.size w w4) := HB3.out.trans (hb4.mono HB3.out.size)
  have hz4 : w.heap.size ≤ w4.heap.size := HB4.out.size
  have hnb4 := netBlk_new w4 0 (fun _ => 0)
  clear hb4 kc1 kc3 HB1 HB3 S1 S3 N3 hnb hz
  by_cases hG : GraphP L
  · by_cases hM : GraphP M
    · have HE : Hid (sameB L M = netEq L.length M.length (rowM L) (rowM M)) := by show sameB L M = _; rw [nets_same hG hM]; simp [sameB, hG, hM]
      have N5 : Hid (NetBlk 83 w4 w1.heap.size L.length (rowM L)) := N4.out.congr (netN_yes hG) (fun i _ => netM_yes hG i)
      rw [decide_eq_true hG, decide_eq_true hM, netArr_yes hM]
      have heq := run_eql_net L.length M.length (rowM L) (rowM M)
      clear hG hM N4
      go_wp2_with (first | (refine wpList_store_net rfl 83 (.tmp 7) (.tmp 17) rfl w4.heap.size M.length (rowM M) rfl rfl Tryz.sizeNet 0 (fun _ => 0) hnb4 ?_; intro w6 hp; have HB6 : Hid (Below w.heap.size w w6) := (HB4.out.alloc hz4 _).trans (hp.below.mono hz4); have N6 := N5.out.keep hp.since; have N7 := hp.net; clear hp) | (refine wpList_load_net_g rfl 83 (.tmp 5) rfl w1.heap.size L.length (rowM L) rfl Tryz.sizeNet _ Tryz.underlying83 rfl N6 ?_) | (refine wpList_load_net_g rfl 83 (.tmp 7) rfl w4.heap.size M.length (rowM M) rfl Tryz.sizeNet _ Tryz.underlying83 rfl N7 ?_))
      go_ret
      exact ⟨ret_bool HE.out.symm, HB6.out⟩
    · have HE : Hid (sameB L M = false) := by show sameB L M = _; simp [sameB, hM]
      rw [decide_eq_true hG, decide_eq_false hM, netArr_no hM]
      clear hG hM N4
      go_wp2_with (refine wpList_store_net rfl 83 (.tmp 7) (.tmp 17) rfl w4.heap.size 0 (fun _ => 0) rfl rfl Tryz.sizeNet 0 (fun _ => 0) hnb4 ?_; intro w6 hp; have HB6 : Hid (Below w.heap.size w w6) := (HB4.out.alloc hz4 _).trans (hp.below.mono hz4); clear hp)
      go_ret
      exact ⟨ret_bool HE.out.symm, HB6.out⟩
  · have HE : Hid (sameB L M = false) := by show sameB L M = _; simp [sameB, hG]
    rw [decide_eq_false hG]
    clear hG N4
    go_wp2_with (refine wpList_store_net rfl 83 (.tmp 7) (.tmp 17) rfl w4.heap.size (netN M) (netM M) rfl rfl Tryz.sizeNet 0 (fun _ => 0) hnb4 ?_; intro w6 hp; have HB6 : Hid (Below w.heap.size w w6) := (HB4.out.alloc hz4 _).trans (hp.below.mono hz4); clear hp)
    go_ret
    exact ⟨ret_bool HE.out.symm, HB6.out⟩

end Go.Proofs.YtohjfcfcopbmoaaGreatDoor
