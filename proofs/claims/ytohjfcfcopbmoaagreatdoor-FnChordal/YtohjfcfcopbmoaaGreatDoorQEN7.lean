/- The texts EN7, CN3, CX7, joined. -/
import Derived.Test.YtohjfcfcopbmoaaGreatDoorQCO1
import Derived.Test.YtohjfcfcopbmoaaGreatDoorQY1
import Derived.Test.YtohjfcfcopbmoaaGreatDoorQF1
import Derived.Deep.RegionHeld3
import Derived.Test.YtohjfcfcopbmoaaGreatDoorQCX3
import Derived.Test.YtohjfcfcopbmoaaGreatDoorQX2

/- Walks: the first list by which a graph stands for a pattern. -/
namespace Go.Proofs.YtohjfcfcopbmoaaGreatDoor
open Go.RowKit Go.Shelf
attribute [local go_sem] Oper.semAt_some

theorem OwnRow.kept2 {T : TypeId} {w w' : World} {B : Nat} {v : Value} {xs : List Int} (h : OwnRow T w B v xs) (hk : ∀ (k : Nat) (cs : Array Value) (fr : Nat × Nat), w.heap[k]? = some (Obj.cells cs T fr) → w'.heap[k]? = some (Obj.cells cs T fr)) : OwnRow T w' B v xs := by
  obtain ⟨h1, h2, h3⟩ := h
  refine ⟨h1, h2, ?_⟩
  rcases h3 with h3 | ⟨g, cap, cur, e, hg, hh, r⟩
  · exact Or.inl h3
  · exact Or.inr ⟨g, cap, cur, e, hg, hk _ _ _ hh, r⟩
theorem ChoiceAt.later {T : Nat → Prop} {w w' : World} {cf : Nat} {lb : Array Value} {sz : Nat} {C : List Int → Nat} (h : ChoiceAt T w cf lb sz C) (hk : KeepsBut T w w') : ChoiceAt T w' cf lb sz C :=
  fun W v xs hW hr hx hl => h W v xs (hk.trans hW) hr hx hl

/-- A list is found. -/
def FitD (w : World) (xs : List Int) (W : World) : Prop :=
  ∃ val, W.heap[w.heap.size]? = some (.cells #[val] 33 (0, 0)) ∧ W.heap[w.heap.size + 1]? = some (.cells #[.bool true] 4 (0, 0)) ∧ OwnRow 2 W w.heap.size val xs ∧ Below w.heap.size w W
theorem FitD.put {w : World} {xs : List Int} {A : World} {l : Nat} {ob : Obj} (h : FitD w xs A) (hl : w.heap.size ≤ l) (ho : A.heap[l]? = some ob) (hob : ∀ cs U fr, ob ≠ Obj.cells cs U fr) (o : Obj) : FitD w xs (A.putObj l o) := by
  obtain ⟨val, h3, h4, h5, h6⟩ := h
  have hk : ∀ (k : Nat) (cs : Array Value) (U : TypeId) (fr : Nat × Nat), A.heap[k]? = some (Obj.cells cs U fr) → (A.putObj l o).heap[k]? = some (Obj.cells cs U fr) := fun k cs U fr hh => by
    refine (World.putObj_heap_other (fun e => ?_)).trans hh
    subst e; rw [ho] at hh; exact hob _ _ _ (Option.some.inj hh)
  exact ⟨val, hk _ _ _ _ h3, hk _ _ _ _ h4, h5.kept2 (fun k cs fr => hk k cs _ fr), h6.trans (below_put A l o hl (Array.getElem?_eq_some_iff.1 ho).1)⟩

end Go.Proofs.YtohjfcfcopbmoaaGreatDoor

/- Walks: slices.Compare; the lightest to follow. -/
namespace Go.Proofs.YtohjfcfcopbmoaaGreatDoor
open Go.RowKit

set_option maxHeartbeats 1000000 in
theorem isNaN_any (x : Int) (w : World) : Calls Tryz.prog 283 #[.int .i64 x] w fun e w' => e = .returned (.bool false) ∧ w = w' := by
  have qx : (x != x) = false := by simp
  go_enter Tryz.func283, Tryz.ntmps283
  go_wp2
  go_ret
  exact ⟨rfl, rfl⟩
/-- Which is less. -/
def sgnI (x y : Int) : Int := if x < y then -1 else if y < x then 1 else 0
set_option maxHeartbeats 2000000 in
theorem cmpInts_any (x y : Int) (w : World) : Calls Tryz.prog 241 #[.int .i64 x, .int .i64 y] w fun e w' => e = .returned (.int .i64 (sgnI x y)) ∧ w = w' := by
  go_enter Tryz.func241, Tryz.ntmps241
  go_wp2_with fail
  refine (isNaN_any x _).mono ?_
  rintro e w' ⟨rfl, rfl⟩
  go_wp2_with fail
  refine (isNaN_any y _).mono ?_
  rintro e w' ⟨rfl, rfl⟩
  by_cases h1 : x < y
  · have HE : Hid (sgnI x y = -1) := if_pos h1
    go_wp2
    go_ret
    exact ⟨by rw [HE.out]; rfl, rfl⟩
  · by_cases h2 : y < x
    · have HE : Hid (sgnI x y = 1) := by show _ = _; unfold sgnI; rw [if_neg h1, if_pos h2]
      have h3 : x > y := h2
      go_wp2
      go_ret
      exact ⟨by rw [HE.out]; rfl, rfl⟩
    · have HE : Hid (sgnI x y = 0) := by show _ = _; unfold sgnI; rw [if_neg h1, if_neg h2]
      have h3 : ¬ x > y := h2
      go_wp2
      go_ret
      exact ⟨by rw [HE.out]; rfl, rfl⟩

/-- What slices.Compare answers of two lists of one length. -/
def GaveCmp (w : World) (xs ys : List Int) (e : Ending) (w' : World) : Prop := ∃ r : Int, e = .returned (.int .i64 r) ∧ -1 ≤ r ∧ r ≤ 1 ∧ (r < 0 ↔ LexLt xs ys) ∧ w = w'
set_option maxHeartbeats 2000000 in
set_option maxRecDepth 100000 in
theorem compare_any (v v1 : Value) (xs ys : List Int) (w : World) (h : RowAt w v xs) (h1 : RowAt w v1 ys) (hl : ys.length = xs.length) (hs : xs.length ≤ 1048576) : Calls Tryz.prog 190 #[v, v1] w (GaveCmp w xs ys) := by
  obtain ⟨a0, c0, rfl⟩ := h.slice
  obtain ⟨a1, c1, rfl⟩ := h1.slice
  have HR := Lib.hid h
  have HR1 := Lib.hid h1
  have HL := Lib.hid hl
  rw [hl]
  clear h h1 hl
  go_enter Tryz.func190, Tryz.ntmps190
  go_wp2_with fail
  go_loopw [11] (fun i wr => ∃ k : Nat, k ≤ xs.length ∧ i = .int .i64 k ∧ (∀ j, j < k → nth xs j = nth ys j) ∧ wr = w) (fun i _ => xs.length - (intOf i).toNat)
  case atStart => exact ⟨0, Nat.zero_le _, rfl, fun j hj => absurd hj (by omega), rfl⟩
  case round =>
    obtain ⟨k, hk, rfl, hpre, rfl⟩ := hrel
    have HPRE := Lib.hid hpre
    clear hpre
    by_cases hlt : k < xs.length
    · obtain ⟨b, o, c, e1, l1, l2, hc⟩ := HR.out.pos (by omega)
      simp only [Value.slice.injEq, true_and] at e1
      obtain ⟨rfl, rfl⟩ := e1
      obtain ⟨b', o', c', e2, l3, l4, hc'⟩ := HR1.out.pos (by rw [HL.out]; omega)
      rw [HL.out] at e2
      simp only [Value.slice.injEq, true_and] at e2
      obtain ⟨rfl, rfl⟩ := e2
      have ck := hc k hlt
      have ck' := hc' k (by rw [HL.out]; exact hlt)
      obtain ⟨x, hx⟩ : ∃ x, nth xs k = x := ⟨_, rfl⟩
      obtain ⟨y, hy⟩ : ∃ y, nth ys k = y := ⟨_, rfl⟩
      rw [hx] at ck
      rw [hy] at ck'
      have HX := Lib.hid hx
      have HY := Lib.hid hy
      have hkI : (k : Int) < (xs.length : Int) := by omega
      have hge : ¬ ((k : Int) ≥ (xs.length : Int)) := by omega
      clear hc hc' hx hy
      go_wp2_with fail
      refine (cmpInts_any x y _).mono ?_
      rintro e w' ⟨rfl, rfl⟩
      clear ck ck'
      rcases Int.lt_trichotomy x y with hxy | hxy | hxy
      · have hE : sgnI x y = -1 := if_pos hxy
        rw [hE]
        have HF : Hid (LexLt xs ys) := ⟨k, hlt, by rw [HL.out]; exact hlt, HPRE.out, by rw [HX.out, HY.out]; exact hxy⟩
        clear hE
        go_wp2
        go_ret
        exact ⟨-1, rfl, by omega, by omega, ⟨fun _ => HF.out, fun _ => by omega⟩, rfl⟩
      · have hE : sgnI x y = 0 := by unfold sgnI; rw [if_neg (by omega), if_neg (by omega)]
        rw [hE]
        have HEQ : Hid (∀ j, j < k + 1 → nth xs j = nth ys j) := fun j hj => by
          rcases Nat.lt_succ_iff_lt_or_eq.1 hj with h | rfl
          · exact HPRE.out j h
          · rw [HX.out, HY.out]; exact hxy
        clear hE hxy
        go_wp2
        go_roundw
        case rel => exact ⟨k + 1, by omega, by go_num, HEQ.out, by first | rfl | trivial⟩
        case measure => simp [intOf]; omega
      · have hE : sgnI x y = 1 := by unfold sgnI; rw [if_neg (by omega), if_pos hxy]
        rw [hE]
        have HF : Hid (¬ LexLt xs ys) := fun h => lex_asymm h ⟨k, by rw [HL.out]; exact hlt, hlt, fun j hj => (HPRE.out j hj).symm, by rw [HX.out, HY.out]; exact hxy⟩
        clear hE
        go_wp2
        go_ret
        exact ⟨1, rfl, by omega, by omega, ⟨fun h => absurd h (by omega), fun h => absurd h HF.out⟩, rfl⟩
    · obtain rfl : k = xs.length := by omega
      have HF : Hid (¬ LexLt xs ys) := fun ⟨j, h1, _, _, h4⟩ => by have := HPRE.out j h1; omega
      have hnn : ¬ ((xs.length : Int) < (xs.length : Int)) := by omega
      go_wp2
      go_ret
      exact ⟨0, rfl, by omega, by omega, ⟨fun h => absurd h (by omega), fun h => absurd h HF.out⟩, rfl⟩

end Go.Proofs.YtohjfcfcopbmoaaGreatDoor

/- Plain facts: the least of the ways round all bends is the least loop without a chord. -/
namespace Go.Proofs.YtohjfcfcopbmoaaGreatDoor
open Go.RowKit

/-- Where a loop with a bend may go on, as a mask. -/
def bendK (M : Nat → Nat) (n u v w : Nat) : Nat := clrM (clrM (2 ^ n - 1) (M u)) (2 ^ u) ||| 2 ^ v ||| 2 ^ w
/-- The masks inside a mask. -/
def insM (M : Nat → Nat) (K i : Nat) : Nat := if K.testBit i then M i &&& K else 0
theorem insM_lt {M : Nat → Nat} (hM : ∀ i, M i < 65536) (K i : Nat) : insM M K i < 65536 := by
  unfold insM
  split
  · exact Nat.lt_of_le_of_lt Nat.and_le_left (hM i)
  · omega
theorem insM_near (M : Nat → Nat) (K a b : Nat) : nearM (insM M K) a b = (nearM M a b && K.testBit a && K.testBit b) := by
  unfold nearM insM
  split
  · rename_i h
    rw [Nat.testBit_and, h, Bool.and_true]
  · rename_i h
    have : K.testBit a = false := by simpa using h
    rw [this, Nat.zero_testBit]; simp
theorem bendK_bit {M : Nat → Nat} {n u v w : Nat} (hM : ∀ i, M i < 65536) (hn : n ≤ 16) (hu : u < n) (t : Nat) : (bendK M n u v w).testBit t = bendS (nearM M) n u v w t := by
  have h1 : 2 ^ n - 1 < 65536 := by
    have := Nat.pow_le_pow_right (show 0 < 2 by omega) hn
    omega
  have h2 : 2 ^ u < 65536 := by
    have := Nat.pow_lt_pow_right (show 1 < 2 by omega) (show u < 16 by omega)
    omega
  unfold bendK bendS nearM
  rw [Nat.testBit_or, Nat.testBit_or, clrM_bit (clrM_lt _ h1) h2, clrM_bit h1 (hM u), Nat.testBit_two_pow_sub_one, Nat.testBit_two_pow, Nat.testBit_two_pow, Nat.testBit_two_pow]
  have e : ∀ a b : Nat, decide (a = b) = (b == a) := fun a b => by
    by_cases c : a = b
    · subst c; simp
    · have : (b == a) = false := by rw [beq_eq_false_iff_ne]; omega
      rw [decide_eq_false c, this]
  rw [e u t, e v t, e w t]
  rfl
theorem ins_bend {M : Nat → Nat} {n u v w : Nat} (hM : ∀ i, M i < 65536) (hn : n ≤ 16) (hu : u < n) (a b : Nat) : nearM (insM M (bendK M n u v w)) a b = (nearM M a b && bendS (nearM M) n u v w a && bendS (nearM M) n u v w b) := by
  rw [insM_near, bendK_bit hM hn hu, bendK_bit hM hn hu]

/-- The way round one bend is the least loop with it. -/
theorem bend_seen {M : Nat → Nat} {n u v w : Nat} {c : List Int} (hA : RelP n (nearM M)) (hM : ∀ i, M i < 65536) (hn : n ≤ 16) (hb : Bend (nearM M) u v w) {T : Nat → Bool} (hT : ∀ t, T t = true ↔ t < n)
    (hc : (c = [] ∧ ∀ d, ¬ AtD (nearM (insM M (bendK M n u v w))) T w d v) ∨ ∃ d, AtD (nearM (insM M (bendK M n u v w))) T w d v ∧ c = (u : Int) :: wayD (insM M (bendK M n u v w)) (ringN (nearM (insM M (bendK M n u v w))) T w) d v d) :
    SeenR (ChlP (nearM M)) (fun ys => ChlP (nearM M) ys ∧ vtxN ys 0 = u ∧ vtxN ys 1 = v ∧ vtxN ys (ys.length - 1) = w) c := by
  have hu := (hA.range u v hb.left).1
  have hB := ins_bend (M := M) (v := v) (w := w) hM hn hu
  rcases hc with ⟨e, hno⟩ | ⟨d, hd, e⟩
  · subst e
    refine ⟨Or.inl rfl, fun ys hy => ?_⟩
    obtain ⟨d, _, h⟩ := bend_at hA hB hT hb hy.1 hy.2.1 hy.2.2.1 hy.2.2.2
    exact absurd h (hno d)
  · subst e
    have hl := bend_loop hA hn hB hT hb (insM_lt hM _) (fun _ _ => rfl) hd
    exact ⟨Or.inr hl, fun ys hy => ⟨hl.ne_nil, bend_least hA hn hB hT hb (insM_lt hM _) (fun _ _ => rfl) hd hy.1 hy.2.1 hy.2.2.1 hy.2.2.2⟩⟩
/-- All bends: what has been found. -/
theorem bends_seen {M : Nat → Nat} {n : Nat} {Z : List (Nat × Nat × Nat)} {c : Nat × Nat × Nat → List Int} {T : Nat → Bool} (hA : RelP n (nearM M)) (hM : ∀ i, M i < 65536) (hn : n ≤ 16) (hT : ∀ t, T t = true ↔ t < n)
    (hZ : ∀ t, t ∈ Z ↔ Bend (nearM M) t.1 t.2.1 t.2.2)
    (hc : ∀ t ∈ Z, (c t = [] ∧ ∀ d, ¬ AtD (nearM (insM M (bendK M n t.1 t.2.1 t.2.2))) T t.2.2 d t.2.1) ∨ ∃ d, AtD (nearM (insM M (bendK M n t.1 t.2.1 t.2.2))) T t.2.2 d t.2.1 ∧ c t = (t.1 : Int) :: wayD (insM M (bendK M n t.1 t.2.1 t.2.2)) (ringN (nearM (insM M (bendK M n t.1 t.2.1 t.2.2))) T t.2.2) d t.2.1 d) :
    SeenR (ChlP (nearM M)) (ChlP (nearM M)) (Z.foldl (fun b t => betterR b (c t)) []) := by
  have h1 := seen_fold (p := ChlP (nearM M)) (q := fun (t : Nat × Nat × Nat) ys => ChlP (nearM M) ys ∧ vtxN ys 0 = t.1 ∧ vtxN ys 1 = t.2.1 ∧ vtxN ys (ys.length - 1) = t.2.2) (c := c) Z
    (fun t ht => bend_seen hA hM hn ((hZ t).1 ht) hT (hc t ht)) SeenR.zero
  refine h1.more (fun ys hy => ?_)
  obtain ⟨zs, ⟨hz, hlt⟩, hn⟩ := hy.bent hA.sym
  have h4 := hz.four
  refine ⟨zs, Or.inr ⟨(vtxN zs 0, vtxN zs 1, vtxN zs (zs.length - 1)), (hZ _).2 ⟨hz.loop.step 0 (by omega), hz.loop.close, ?_, hlt⟩, hz, rfl, rfl, rfl⟩, hn⟩
  exact hz.far hA.sym (by omega) (by omega) (by omega) (by unfold nxt; omega)
/-- All bends: the program's answer. -/
theorem bends_cls {M : Nat → Nat} {n : Nat} {Z : List (Nat × Nat × Nat)} {c : Nat × Nat × Nat → List Int} {T : Nat → Bool} (hA : RelP n (nearM M)) (hM : ∀ i, M i < 65536) (hn : n ≤ 16) (hT : ∀ t, T t = true ↔ t < n)
    (hZ : ∀ t, t ∈ Z ↔ Bend (nearM M) t.1 t.2.1 t.2.2)
    (hc : ∀ t ∈ Z, (c t = [] ∧ ∀ d, ¬ AtD (nearM (insM M (bendK M n t.1 t.2.1 t.2.2))) T t.2.2 d t.2.1) ∨ ∃ d, AtD (nearM (insM M (bendK M n t.1 t.2.1 t.2.2))) T t.2.2 d t.2.1 ∧ c t = (t.1 : Int) :: wayD (insM M (bendK M n t.1 t.2.1 t.2.2)) (ringN (nearM (insM M (bendK M n t.1 t.2.1 t.2.2))) T t.2.2) d t.2.1 d) :
    Z.foldl (fun b t => betterR b (c t)) [] = clsL (nearM M) :=
  (clsL_of (bends_seen hA hM hn hT hZ hc)).symm

end Go.Proofs.YtohjfcfcopbmoaaGreatDoor
