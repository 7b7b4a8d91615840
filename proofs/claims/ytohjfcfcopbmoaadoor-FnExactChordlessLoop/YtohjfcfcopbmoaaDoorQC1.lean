/- The texts C1, C2, C3, Later, C4, C5, C6, EqArr, C7, joined. -/
import Derived.Test.YtohjfcfcopbmoaaDoorQB4
import Derived.Deep.RegionHeld3
import Derived.Test.YtohjfcfcopbmoaaDoorBase
import Derived.WalkKit
import Derived.Laws.StructEq

/- Walks: the program's GraphOk; the laws' helpers in one form. -/
namespace Go.Proofs.YtohjfcfcopbmoaaDoor
open Go.RowKit

theorem netBlk_new (w : World) (n : Nat) (M : Nat → Nat) : NetBlk 53 (w.alloc (.cells (netArr n M) 53)) w.heap.size n M := heap_alloc_new _ _

/-- A new box for a net, and a net stored into it: nothing that was there has turned. -/
theorem NetPut.since {T : TypeId} {w w' : World} {o : Obj} {n : Nat} {M : Nat → Nat} (hp : NetPut T (w.alloc o) w' w.heap.size n M) : Below w.heap.size w w' :=
  ((Below.refl _ _).alloc (Nat.le_refl _) _).trans hp.below

/-! ### The laws' helpers, all in one form -/

/-- .. a slice of int64 of its own make. -/
def GaveRow (w : World) (xs : List Int) (e : Ending) (w' : World) : Prop :=
  ∃ n a c, e = .returned (.slice a n c) ∧ OwnRow 2 w' w.heap.size (.slice a n c) xs ∧ Below w.heap.size w w'
theorem toInt64S_gave (v : Value) (xs : List Int) (w : World) (h : RowAt w v xs) (hs : xs.length ≤ 1048576) : Calls Tryd.prog 44 #[v] w (GaveRow w xs) :=
  (toInt64S_any v xs w h hs).mono fun _ _ ⟨h1, h2, h3, _⟩ => ⟨_, _, _, h1, h2, h3⟩
theorem eqInt64S_b (v v' : Value) (xs ys : List Int) (w : World) (h : RowAt w v xs) (h' : RowAt w v' ys) :
    Calls Tryd.prog 9 #[v, v'] w fun e w' => e = .returned (.bool (decide (xs = ys))) ∧ Below w.heap.size w w' :=
  (eqInt64S_any v v' xs ys w h h').mono fun _ _ ⟨h1, h2⟩ => ⟨h1, h2.below _⟩
theorem eqInt64SS_b (v v' : Value) (xs ys : List (List Int)) (w : World) (h : GridAt w v xs) (h' : GridAt w v' ys) :
    Calls Tryd.prog 28 #[v, v'] w fun e w' => e = .returned (.bool (decide (xs = ys))) ∧ Below w.heap.size w w' :=
  (eqInt64SS_any v v' xs ys w h h').mono fun _ _ ⟨h1, h2⟩ => ⟨h1, h2.below _⟩
theorem szInt64SS_b (v : Value) (L : List (List Int)) (left : Int) (w : World) (h : GridAt w v L) (h0 : 0 ≤ left) (h1 : left ≤ 1048576) :
    Calls Tryd.prog 19 #[v, .int .i64 left] w fun e w' => e = .returned (.int .i64 (szGrid L left)) ∧ Below w.heap.size w w' :=
  (szInt64SS_any v L left w h h0 h1).mono fun _ _ ⟨h1, h2⟩ => ⟨h1, by rw [h2]; exact Below.refl _ _⟩

end Go.Proofs.YtohjfcfcopbmoaaDoor

/- Walks: EdgeIn. -/
namespace Go.Proofs.YtohjfcfcopbmoaaDoor
open Go.RowKit

set_option maxHeartbeats 400000 in
theorem l1Edge_any (v : Value) (L : List (List Int)) (u x : Int) (w : World) (h : GridAt w v L) (h0 : 0 ≤ u) (h1 : u < (L.length : Int)) :
    Calls Tryd.prog 42 #[.agg #[v], .int .i64 u, .int .i64 x] w fun e w' => e = .returned (.bool (hasB (nthR L u.toNat) x)) ∧ Below w.heap.size w w' := by
  have hl := h.len
  unfold maxLen at hl
  obtain ⟨b, o, c, A, C, rfl, l1, l2, hc⟩ := h.pos (by omega)
  have hcu := hc u.toNat (by omega)
  have ha : Below w.heap.size w (w.alloc (.cells #[.slice (some ⟨b, o, none⟩) L.length c] 29)) := (Below.refl _ _).alloc (Nat.le_refl _) _
  have hc1 := cell_keep ha hcu.1
  have hr1 := hcu.2.keep ha
  have HA := Lib.hid ha
  clear ha hc hcu h
  go_enter Tryd.func42, Tryd.ntmps42
  go_wp2_with fail
  refine (l1Has_any _ _ _ _ hr1).mono ?_
  rintro e w' ⟨rfl, rfl⟩
  go_wp2
  go_ret
  exact ⟨rfl, HA.out⟩

/-- What EdgeIn answers. -/
def edgeB (L : List (List Int)) (u x : Int) : Bool := decide (GraphP L) && inB u 0 ((L.length : Int) - 1) && inB x 0 ((L.length : Int) - 1) && hasB (nthR L u.toNat) x

theorem rowM_edge {L : List (List Int)} (hG : GraphP L) {u : Nat} (hu : u < L.length) (x : Int) : hasM (rowM L u) x = (inB x 0 ((L.length : Int) - 1) && hasB (nthR L u) x) := by
  have hs : ∀ v, v < L.length → SetP (nthR L v) L.length := fun v hv => (hG.2.1 v hv).1
  have hz := hG.1
  by_cases h1 : 0 ≤ x ∧ x < 16
  · obtain ⟨k, rfl⟩ := Int.eq_ofNat_of_zero_le h1.1
    rw [rowM_has hs hu (by omega)]
    by_cases h2 : inB (k : Int) 0 ((L.length : Int) - 1) = true
    · rw [h2]; simp
    · have h2' : inB (k : Int) 0 ((L.length : Int) - 1) = false := by simpa using h2
      rw [h2', Bool.false_and]
      cases hh : hasB (nthR L u) k with
      | false => rfl
      | true =>
        obtain ⟨i, hi, e⟩ := (hasB_iff _ _).1 hh
        have := hs u hu i hi
        have h3 := this.2.1
        have h4 := this.1
        rw [e] at h3 h4
        simp [inB] at h2
        omega
  · have e1 : hasM (rowM L u) x = false := by unfold hasM; rw [decide_eq_false h1, Bool.false_and]
    have e2 : inB x 0 ((L.length : Int) - 1) = false := by unfold inB; rw [decide_eq_false_iff_not]; omega
    rw [e1, e2, Bool.false_and]

end Go.Proofs.YtohjfcfcopbmoaaDoor

/- Walks: SetOk. -/
namespace Go.Proofs.YtohjfcfcopbmoaaDoor
open Go.RowKit

/-- What SetOk answers. -/
def setB (L : List (List Int)) (xs : List Int) : Bool := decide (GraphP L) && decide (SetP xs L.length)

set_option maxHeartbeats 800000 in
theorem implSetOk_any (v v1 : Value) (L : List (List Int)) (xs : List Int) (w : World) (h : GridAt w v L) (h1 : RowAt w v1 xs) :
    Calls Tryd.prog 61 #[.agg #[v], v1] w fun e w' => e = .returned (.bool (setB L xs)) ∧ Below w.heap.size w w' := by
  obtain ⟨a0, c0, rfl⟩ := h.slice
  have ha : Below w.heap.size w (w.alloc (.cells #[.slice a0 L.length c0] 29)) := (Below.refl _ _).alloc (Nat.le_refl _) _
  have hk := h.keep ha
  have R0 := Lib.hid (h1.keep ha)
  have HA := Lib.hid ha
  clear ha
  go_enter Tryd.func61, Tryd.ntmps61
  go_wp2_with fail
  refine (netOf_any _ _ _ hk).mono ?_
  rintro e w1 ⟨rfl, hb1⟩
  have HB1 : Hid (Below w.heap.size w w1) := HA.out.trans (hb1.mono (by simp))
  have S1 := Lib.hid (R0.out.keep hb1)
  have hz : w.heap.size ≤ w1.heap.size := HB1.out.size
  have hnb := netBlk_new w1 0 (fun _ => 0)
  clear hb1 hk h HA R0
  by_cases hG : GraphP L
  · have hz1 := hG.1
    have HE : Hid (setB L xs = decide (SetP xs L.length)) := by show setB L xs = _; simp [setB, hG]
    rw [decide_eq_true hG, netArr_yes hG]
    clear hG
    go_wp2_with (first | (refine wpList_store_net rfl 53 (.tmp 5) (.tmp 10) rfl w1.heap.size L.length (rowM L) rfl rfl Tryd.sizeNet 0 (fun _ => 0) hnb ?_; intro w3 hp; have hn0 := hp.net.at.1; have HB3 : Hid (Below w.heap.size w w3) := (HB1.out.alloc hz _).trans (hp.below.mono hz); have S3 := Lib.hid (S1.out.keep hp.since); clear hp) | (go_at_call 46; refine (maskOf_any _ _ _ _ S3.out (by omega) (by omega)).mono ?_; rintro e w4 ⟨rfl, hb4⟩; have HB4 : Hid (Below w.heap.size w w4) := HB3.out.trans (hb4.mono HB3.out.size); clear hb4))
    all_goals go_ret
    all_goals exact ⟨ret_bool (by rw [HE.out]; symm; first | exact decide_eq_true (by assumption) | exact decide_eq_false (by assumption)), HB4.out⟩
  · have HE : Hid (setB L xs = false) := by show setB L xs = _; simp [setB, hG]
    rw [decide_eq_false hG, netArr_no hG]
    clear hG
    go_wp2_with (refine wpList_store_net rfl 53 (.tmp 5) (.tmp 10) rfl w1.heap.size 0 (fun _ => 0) rfl rfl Tryd.sizeNet 0 (fun _ => 0) hnb ?_; intro w3 hp; have HB3 : Hid (Below w.heap.size w w3) := (HB1.out.alloc hz _).trans (hp.below.mono hz); clear hp)
    go_ret
    exact ⟨ret_bool HE.out.symm, HB3.out⟩

end Go.Proofs.YtohjfcfcopbmoaaDoor

/- A class of worlds for regions that draw their order and call what makes memory but hands back a plain value: all worlds in which nothing that was there has turned. -/
namespace Go.Proofs.YtohjfcfcopbmoaaDoor
open Go.RowKit

/-- A world in which all of w is as it was. -/
def Later (w : World) : Type := { w' : World // Below w.heap.size w w' }
instance (w : World) : Nonempty (Later w) := ⟨⟨w, Below.refl _ _⟩⟩
def Later.at {w : World} (x : Later w) : World := x.1
theorem Later.bel {w : World} (x : Later w) : Below w.heap.size w x.at := x.2
theorem Later.cell {w : World} {a : Addr} {v : Value} (h : w.cell? a = some v) (x : Later w) : x.at.cell? a = some v := cell_keep x.bel h

theorem wp_region_later {P : Program} {id : Nat} {Q : Exit → Act → World → Prop} {a : Act} {w : World} {l : List Oper} (hm : P.follows .mixedOrders = true) (hB : Region.lexB .any l.toArray = true)
    (h : wpQuiet P l.toArray (fun w' => ∃ x : Later w, w' = x.at) (fun a' => ∀ w', (∃ x : Later w, w' = x.at) → Q .normal a' w') l a) : (Code.region id l.toArray true).wp P Q a w :=
  wp_region_quiet (C := fun w' => ∃ x : Later w, w' = x.at) hm hB ⟨⟨w.drew, (Below.refl _ _).drew⟩, rfl⟩ (by simpa using h)

theorem Calls.later {P : Program} {f : FuncId} {args : Array Value} {w : World} {x : Later w} {v : Value}
    (h : Calls P f args x.at fun e w' => e = .returned v ∧ Below x.at.heap.size x.at w') : Calls P f args x.at fun e w'' => e = .returned v ∧ ∃ y : Later w, w'' = y.at :=
  h.mono fun _ w' ⟨he, hb⟩ => ⟨he, ⟨w', x.bel.trans (hb.mono x.bel.size)⟩, rfl⟩
theorem Calls.later_same {P : Program} {f : FuncId} {args : Array Value} {w : World} {x : Later w} {v : Value}
    (h : Calls P f args x.at fun e w' => e = .returned v ∧ x.at = w') : Calls P f args x.at fun e w'' => e = .returned v ∧ ∃ y : Later w, w'' = y.at :=
  h.mono fun _ _ ⟨he, hb⟩ => ⟨he, x, hb.symm⟩
theorem Calls.later_drawn {P : Program} {f : FuncId} {args : Array Value} {w : World} {x : Later w} {v : Value}
    (h : Calls P f args x.at fun e w' => e = .returned v ∧ Drawn x.at w') : Calls P f args x.at fun e w'' => e = .returned v ∧ ∃ y : Later w, w'' = y.at :=
  Calls.later (h.mono fun _ _ ⟨he, hd⟩ => ⟨he, hd.below _⟩)

end Go.Proofs.YtohjfcfcopbmoaaDoor

/- Walks: OrderOk. -/
namespace Go.Proofs.YtohjfcfcopbmoaaDoor
open Go.RowKit

/-- Element k is a vertex below n that is not among the first k. -/
def OrdAt (xs : List Int) (n : Nat) (k : Nat) : Prop := inB (nth xs k) 0 ((n : Int) - 1) = true ∧ hasB (xs.take k) (nth xs k) = false
instance (xs : List Int) (n k : Nat) : Decidable (OrdAt xs n k) := by unfold OrdAt; infer_instance
/-- The list names each of n vertices once. -/
def OrdP (xs : List Int) (n : Nat) : Prop := xs.length = n ∧ ∀ k, k < xs.length → OrdAt xs n k
instance (xs : List Int) (n : Nat) : Decidable (OrdP xs n) := by unfold OrdP; infer_instance

theorem nth_take {xs : List Int} {k i : Nat} (h : i < k) : nth (xs.take k) i = nth xs i := by simp [nth, h]
theorem hasB_take {xs : List Int} {k : Nat} (hk : k ≤ xs.length) (x : Int) : hasB (xs.take k) x = true ↔ ∃ j, j < k ∧ nth xs j = x := by
  rw [hasB_iff]
  constructor
  · rintro ⟨i, hi, e⟩
    have hi' : i < k := by simp at hi; omega
    exact ⟨i, hi', by rw [← nth_take hi']; exact e⟩
  · rintro ⟨i, hi, e⟩
    exact ⟨i, by simp; omega, by rw [nth_take hi]; exact e⟩

theorem RowAt.take {w : World} {b o c : Nat} {xs : List Int} {n : Nat} (h : RowAt w (.slice (some ⟨b, o, none⟩) n c) xs) (hc : ∀ i, i < xs.length → w.cell? ⟨b, o + i, none⟩ = some (.int .i64 (nth xs i))) (hcm : c ≤ maxLen) (hcx : xs.length ≤ c) (k : Nat) (hk : k ≤ xs.length) :
    RowAt w (.slice (some ⟨b, o, none⟩) k c) (xs.take k) := by
  have e : (xs.take k).length = k := by simp; omega
  refine ⟨fun x hx => h.1 x (List.mem_of_mem_take hx), by rw [e]; exact Nat.le_trans hk h.2.1, Or.inr ⟨b, o, c, by rw [e], by omega, hcm, fun i hi => ?_⟩⟩
  rw [e] at hi
  rw [nth_take hi]
  exact hc i (by omega)

end Go.Proofs.YtohjfcfcopbmoaaDoor

/- Walks: OrderOk, of the model and of the program. -/
namespace Go.Proofs.YtohjfcfcopbmoaaDoor
open Go.RowKit

/-- What OrderOk answers. -/
def orderB (L : List (List Int)) (xs : List Int) : Bool := decide (GraphP L) && decide (OrdP xs L.length)

theorem inB_vertex (x : Int) (n : Nat) : inB x 0 ((n : Int) - 1) = decide (0 ≤ x ∧ x < (n : Int)) := by
  unfold inB
  rw [Bool.eq_iff_iff, decide_eq_true_iff, decide_eq_true_iff]
  omega

theorem maskTo_small {xs : List Int} {n : Nat} (hn : n ≤ 16) {k : Nat} (h : ∀ j, j < k → inB (nth xs j) 0 ((n : Int) - 1) = true) : maskTo xs k < 65536 := by
  induction k with
  | zero => simp [maskTo]
  | succ k ih =>
    have h1 := h k (by omega)
    simp [inB] at h1
    exact or_lt16 (ih (fun j hj => h j (by omega))) (by omega)

end Go.Proofs.YtohjfcfcopbmoaaDoor

/- Walks: SameGraph. -/
namespace Go.Proofs.YtohjfcfcopbmoaaDoor
open Go.RowKit

/-- What SameGraph answers. -/
def sameB (L M : List (List Int)) : Bool := decide (GraphP L) && decide (GraphP M) && decide (L = M)

end Go.Proofs.YtohjfcfcopbmoaaDoor

/- Go's == on arrays of integers of one cell each, in the model's words. No statement of the program. -/
namespace Go.Proofs.YtohjfcfcopbmoaaDoor
open Go.RowKit

section
variable {P : Program} (w : World)

theorem run_part_int {e : TypeId} {k : IntKind} (he : P.underlying e = some (.int k)) (cs : Array Value) (i : Nat) (v : Value) (h : cs[i]? = some v) : (part e cs i).run P w = .ok v w := by
  unfold part isAgg
  simp [Sem.run_bind, run_underlying he, h]

theorem run_equalIn_array {d len : Nat} {t e : TypeId} {k : IntKind} {i : TypeInfo} (ht : P.underlying t = some (.array len e)) (he : P.underlying e = some (.int k)) (hi : P.info? e = some i) (hs : i.size = 1) (xs ys : Array Value) (X Y : Nat → Int)
    (hx : ∀ j, j < len → xs[j]? = some (.int k (X j))) (hy : ∀ j, j < len → ys[j]? = some (.int k (Y j))) :
    (Op.equalIn (d + 2) t (.agg xs) (.agg ys)).run P w = .ok (decide (∀ j, j < len → X j = Y j)) w := by
  rw [Op.equalIn]
  simp only [Sem.run_bind, run_underlying ht, Result.andThen_ok]
  have hsz : (sizeOf e).run P w = .ok 1 w := by simp [sizeOf, typeInfo, hi, hs, Sem.run_bind]
  simp only [hsz, Result.andThen_ok, Nat.mul_one]
  rw [Std.Legacy.Range.forIn_eq_forIn_range']
  simp only [Std.Legacy.Range.size, Nat.sub_zero, Nat.add_sub_cancel, Nat.div_one]
  have key : ∀ (n s : Nat), s + n = len →
      ((forIn (List.range' s n) ((none, ()) : Option Bool × Unit) (fun j _ => do
          let a ← part e xs j
          let b ← part e ys j
          let r ← Op.equalIn (d + 1) e a b
          if (!r) = true then pure (ForInStep.done (some false, ())) else pure (ForInStep.yield (none, ()))) : Sem (Option Bool × Unit)).run P w) =
        .ok ⟨if (∀ j, j < len → s ≤ j → X j = Y j) then none else some false, ()⟩ w := by
    intro n
    induction n with
    | zero =>
      intro s hsn
      have : ∀ j, j < len → s ≤ j → X j = Y j := fun j h2 h1 => by omega
      rw [if_pos this]
      rfl
    | succ n ih =>
      intro s hsn
      rw [List.range'_succ, List.forIn_cons]
      simp only [Sem.run_bind, run_part_int w he xs s _ (hx s (by omega)), run_part_int w he ys s _ (hy s (by omega)), Result.andThen_ok, run_equalIn_int w d e k k _ _ he]
      by_cases hq : X s = Y s
      · have hb : (X s == Y s) = true := by simpa using hq
        simp only [hb, Bool.not_true, Bool.false_eq_true, if_false, Sem.run_pure, Result.andThen_ok]
        rw [ih (s + 1) (by omega)]
        have e2 : (∀ j, j < len → s + 1 ≤ j → X j = Y j) ↔ (∀ j, j < len → s ≤ j → X j = Y j) := by
          constructor
          · intro h j h2 h1
            by_cases e3 : j = s
            · subst e3; exact hq
            · exact h j h2 (by omega)
          · intro h j h2 h1; exact h j h2 (by omega)
        simp only [e2]
      · have hb : (X s == Y s) = false := by simpa using hq
        have hn : ¬ (∀ j, j < len → s ≤ j → X j = Y j) := fun h => hq (h s (by omega) (Nat.le_refl _))
        simp [hb, hn]
  have k0 := key len 0 (by omega)
  rw [k0]
  simp only [Result.andThen_ok]
  by_cases hq : ∀ j, j < len → X j = Y j
  · rw [if_pos (fun j h1 _ => hq j h1), decide_eq_true hq]
    rfl
  · rw [if_neg (fun h => hq (fun j h1 => h j h1 (Nat.zero_le _))), decide_eq_false hq]
    rfl

end
end Go.Proofs.YtohjfcfcopbmoaaDoor

/- Walks: SameGraph, of the program. -/
namespace Go.Proofs.YtohjfcfcopbmoaaDoor
open Go.RowKit

theorem Tryd.infoM : (Tryd.prog.info? 50).map (fun i => (i.zero, i.size, i.bytes)) = some (some (.int .u32 0), 1, 4) := by kernel_rfl
theorem Tryd.sizeArr : (Tryd.prog.info? 51).map (·.size) = some 16 := by kernel_rfl
theorem Tryd.stoodNet : Tryd.prog.stoodInHeld 53 = false := by kernel_rfl

theorem run_part_arr (w : World) (cs : Array Value) (i : Nat) : (part 51 cs i).run Tryd.prog w = .ok (.agg (cs.extract i (i + 16))) w := by
  have h := Tryd.sizeArr
  cases hq : Tryd.prog.info? 51 with
  | none => simp [hq] at h
  | some j =>
    have hs : j.size = 16 := by simpa [hq] using h
    unfold part isAgg
    simp [Sem.run_bind, run_underlying Tryd.underlying51, sizeOf, typeInfo, hq, hs]

/-- A strictly increasing list is known by its elements. -/
theorem set_ext {xs ys : List Int} {n : Nat} (hn : n ≤ 16) (hx : SetP xs n) (hy : SetP ys n) (h : ∀ u : Nat, u < 16 → hasB xs u = hasB ys u) : xs = ys := by
  have mono : ∀ {zs : List Int}, SetP zs n → ∀ j i, i < j → j < zs.length → nth zs i < nth zs j := by
    intro zs hz j
    induction j with
    | zero => intro i hi; omega
    | succ j ih =>
      intro i hi hj
      have h1 := (hz (j + 1) hj).2.2 (by omega)
      simp at h1
      by_cases e : i = j
      · subst e; exact h1
      · have := ih i (by omega) (by omega); omega
  have sub : ∀ {ps qs : List Int}, SetP ps n → (∀ u : Nat, u < 16 → hasB ps u = hasB qs u) → ∀ i, i < ps.length → ∃ j, j < qs.length ∧ nth qs j = nth ps i := by
    intro ps qs ha hab i hi
    have h1 := ha i hi
    obtain ⟨u, hu⟩ := Int.eq_ofNat_of_zero_le h1.1
    have h2 := hab u (by have := h1.2.1; omega)
    have h3 : hasB ps u = true := (hasB_iff _ _).2 ⟨i, hi, hu⟩
    rw [h3] at h2
    obtain ⟨j, hj, e⟩ := (hasB_iff _ _).1 h2.symm
    exact ⟨j, hj, by rw [e, hu]⟩
  have eqAt : ∀ i, i < xs.length → i < ys.length → nth xs i = nth ys i := by
    intro i
    induction i using Nat.strongRecOn with
    | _ i ih =>
      intro h1 h2
      obtain ⟨j, hj, e⟩ := sub hx h i h1
      obtain ⟨k, hk, e'⟩ := sub hy (fun u hu => (h u hu).symm) i h2
      rcases Nat.lt_trichotomy j i with hji | hji | hji
      · have e3 := ih j hji (by omega) hj
        have := mono hx i j hji h1
        omega
      · subst hji; exact e.symm
      · have h5 := mono hy j i hji hj
        rcases Nat.lt_trichotomy k i with hki | hki | hki
        · have e3 := ih k hki hk (by omega)
          have := mono hy i k hki h2
          omega
        · subst hki; exact e'
        · have := mono hx k i hki hk
          omega
  have lens : xs.length = ys.length := by
    rcases Nat.lt_trichotomy xs.length ys.length with hl | hl | hl
    · exfalso
      obtain ⟨k, hk, e⟩ := sub hy (fun u hu => (h u hu).symm) xs.length hl
      have e3 := eqAt k hk (by omega)
      have := mono hy xs.length k (by omega) hl
      omega
    · exact hl
    · exfalso
      obtain ⟨k, hk, e⟩ := sub hx h ys.length hl
      have e3 := eqAt k (by omega) hk
      have := mono hx ys.length k (by omega) hl
      omega
  exact nth_ext lens (fun i hi => eqAt i hi (by omega))

/-- Go's == on two nets. -/
def netEq (n n' : Nat) (M M' : Nat → Nat) : Bool := decide (n = n') && decide (∀ i : Nat, i < 16 → (M i : Int) = (M' i : Int))

set_option maxRecDepth 100000 in
theorem run_eql_net (n n' : Nat) (M M' : Nat → Nat) (w : World) : (binOp .eql 53 (.agg (netArr n M)) (.agg (netArr n' M'))).run Tryd.prog w = .ok (.bool (netEq n n' M M')) w := by
  have hu : Tryd.prog.underlying 53 = some (.struct (Tryd.prog.fieldsOf 53)) := by simp [Program.fieldsOf, Tryd.underlying53]
  obtain ⟨i0, hi, hz0, hz1, hz2⟩ := info_parts Tryd.infoM
  rw [run_eql_struct, run_equalIn_struct w 9999 53 _ _ hu Tryd.stoodNet]
  have p0 : ∀ (n : Nat) (M : Nat → Nat), (part 2 (netArr n M) 0).run Tryd.prog w = .ok (.int .i64 n) w := fun n M => run_part_int w Tryd.underlying2 _ _ _ (netArr_zero n M)
  have ex : ∀ (n : Nat) (M : Nat → Nat) (j : Nat), j < 16 → ((netArr n M).extract 1 (1 + 16))[j]? = some (.int .u32 (M j : Int)) := fun n M j hj => by
    rw [Array.getElem?_extract, if_pos (by rw [netArr_size]; omega), netArr_get n M j hj]
  have ha := run_equalIn_array (d := 9997) w Tryd.underlying51 Tryd.underlying50 hi hz1 ((netArr n M).extract 1 (1 + 16)) ((netArr n' M').extract 1 (1 + 16)) (fun i => (M i : Int)) (fun i => (M' i : Int)) (ex n M) (ex n' M')
  have h0 := run_equalIn_int w 9998 2 .i64 .i64 (n : Int) (n' : Int) Tryd.underlying2
  simp only [Nat.reduceAdd] at ha h0
  simp only [Program.fieldsOf, Tryd.underlying53, Op.eqFields, ne_eq, String.reduceEq, not_false_eq_true, if_true, Sem.run_bind, p0, Result.andThen_ok, h0]
  by_cases e0 : n = n'
  · subst e0
    by_cases e1 : ∀ i : Nat, i < 16 → (M i : Int) = (M' i : Int)
    · rw [decide_eq_true e1] at ha
      have hn : netEq n n M M' = true := by unfold netEq; rw [decide_eq_true e1]; simp
      rw [hn]
      simp [run_part_arr, ha]
    · rw [decide_eq_false e1] at ha
      have hn : netEq n n M M' = false := by unfold netEq; rw [decide_eq_false e1]; simp
      rw [hn]
      simp [run_part_arr, ha]
  · have b0 : ((n : Int) == (n' : Int)) = false := by simp; omega
    simp [b0, netEq, e0]

/-- Two valid graphs are equal just where their nets are. -/
theorem nets_same {L M : List (List Int)} (hL : GraphP L) (hM : GraphP M) : netEq L.length M.length (rowM L) (rowM M) = decide (L = M) := by
  unfold netEq
  by_cases hn : L.length = M.length
  · rw [decide_eq_true hn, Bool.true_and, Bool.eq_iff_iff, decide_eq_true_iff, decide_eq_true_iff]
    have sL : ∀ v, v < L.length → SetP (nthR L v) L.length := fun v hv => (hL.2.1 v hv).1
    have sM : ∀ v, v < M.length → SetP (nthR M v) M.length := fun v hv => (hM.2.1 v hv).1
    constructor
    · intro h
      apply nthR_ext hn
      intro v hv
      have h1 : rowM L v = rowM M v := by have := h v (by have := hL.1; omega); omega
      have key : ∀ u : Nat, u < 16 → hasB (nthR L v) u = hasB (nthR M v) u := fun u hu => by
        rw [← rowM_has sL hv hu, ← rowM_has sM (by omega) hu, h1]
      exact set_ext (n := L.length) (by have := hL.1; omega) (sL v hv) (by rw [hn]; exact sM v (by omega)) key
    · intro e i hi
      rw [e]
  · rw [decide_eq_false hn, Bool.false_and]
    symm
    rw [decide_eq_false_iff_not]
    intro e
    exact hn (by rw [e])

theorem cell_put {T : TypeId} {w w' : World} {o : Obj} {n : Nat} {M : Nat → Nat} (hp : NetPut T (w.alloc o) w' w.heap.size n M) {a : Addr} {v : Value} (h : w.cell? a = some v) : w'.cell? a = some v := cell_keep hp.since h

end Go.Proofs.YtohjfcfcopbmoaaDoor
