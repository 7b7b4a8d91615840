/- The texts EN1, EN2, joined. -/
import Derived.Test.YtohjfcfcopbmoaaGreatDoorQW2
import Derived.Test.YtohjfcfcopbmoaaGreatDoorQCO1
import Derived.Test.YtohjfcfcopbmoaaGreatDoorQF6
import Derived.RangeFuncNested
import Derived.RangeFuncBound
import Derived.RangeFuncCalls
import Derived.RangeFuncLeaves
import Derived.Shelf.Abstract
import Derived.Shelf.RegionOpen
import Derived.OwnWalkIn
import Derived.TacticsInMore
import Derived.LoopNIn
import Derived.LoopIn
import Derived.Deep.RegionLaw
import Derived.Laws.EntriesVeiled

/- A law of loops over an iterator that hands out one and the same memory, filled anew for each round. No statement of the program. -/
namespace Go.Proofs.YtohjfcfcopbmoaaGreatDoor
open Go.RowKit

theorem RowAt.but {T : Nat → Prop} {w w' : World} {b n c : Nat} {x : List Int} (h : RowAt w (.slice (some ⟨b, 0, none⟩) n c) x) (hk : KeepsBut T w w') (hb : ¬ T b) : RowAt w' (.slice (some ⟨b, 0, none⟩) n c) x := by
  obtain ⟨h1, h2, h3⟩ := h
  refine ⟨h1, h2, ?_⟩
  rcases h3 with h3 | ⟨b', o, c', e, l1, l2, hc⟩
  · exact Or.inl h3
  · refine Or.inr ⟨b', o, c', e, l1, l2, fun i hi => ?_⟩
    simp only [Value.slice.injEq, Option.some.injEq, Addr.mk.injEq] at e
    exact hk.cell (by show ¬ T b'; rw [← e.1.1]; exact hb) (hc i hi)

/-- What an iterator promises that hands out lists in one memory of its own, one after another. -/
def SeqRow (F : Fence) (n : Nat) (P : Program) (g : Nat) (lb : Array Value) (T : Nat → Prop) (sz : Nat) (Z : List (List Int)) (w : World) : Prop :=
  ∀ (l : Nat) (J Jx : List (List Int) → World → Prop) (W : World), Below w.heap.size w W → w.heap.size ≤ l → l < W.heap.size →
    (∀ s A B, J s A → Below W.heap.size A B → J s B) →
    (∀ pre x b W1, J pre W1 → W.heap.size ≤ W1.heap.size → W.heap.size ≤ b → (pre ++ [x]) <+: Z → RowAt W1 (.slice (some ⟨b, 0, none⟩) sz sz) x → YieldAt F (n - 1) P l #[.slice (some ⟨b, 0, none⟩) sz sz] W1 fun e W' =>
      (e = .returned (.bool true) ∧ J (pre ++ [x]) W' ∧ KeepsBut (fun k => T k ∨ k = l) W1 W') ∨ (e = .returned (.bool false) ∧ Jx (pre ++ [x]) W' ∧ KeepsBut (fun k => k < w.heap.size ∨ k = l) W1 W')) →
    J [] W →
    CallsIn F n P g (#[.func (.yield l) #[] #[]] ++ lb) W fun e W' => (∃ v, e = .returned v) ∧ (J Z W' ∨ (∃ pre, pre <+: Z ∧ pre ≠ [] ∧ Jx pre W'))

variable {F : Fence} {n : Nat} {P : Program}

theorem wpIn_rangeFunc_row {g : Operand} {ps : Array Tmp} {assign body : Code} {Q : Exit → Act → World → Prop} {a : Act} {w : World}
    (hro : F.round = none) (h1 : 1 ≤ n) {gf : Nat} {lb : Array Value} (hg : a.eval g = .func (.func gf) #[] lb) (hFg : F.fn gf) (eg : ∀ args w, (callFunc gf args).run P w = .ok (.enter gf args) w)
    {T : Nat → Prop} {sz : Nat} {Z : List (List Int)} (hseq : SeqRow F (n - 1) P gf lb T sz Z w)
    (hT : ∀ k, T k → k < w.heap.size) (hps : ps.size = 1)
    (I : List (List Int) → World → Prop) (Ix : Code → List (List Int) → World → Prop) (hI : ∀ s A B, I s A → Below w.heap.size A B → I s B) (hIx : ∀ c s A r o, Ix c s A → A.heap[w.heap.size + 1]? = some (.loop r) → Ix c s (A.putObj (w.heap.size + 1) o)) (h0 : I [] w) (a₁ : Nat → Act)
    (hassign : ∀ (l b : Nat) (W : World) (K : Act → World → Prop), K (a₁ b) W →
      assign.wpIn (F.inRound l) (n - 1 - 1) P (Exit.then K (fun _ _ _ => False)) { tmps := (ps.zip #[.slice (some ⟨b, 0, none⟩) sz sz]).foldl (fun t (p, v) => t.setIfInBounds p v) a.tmps, defers := [] } W)
    (hbody : ∀ (l : Nat) (pre : List (List Int)) (x : List Int) (b : Nat) (W : World), I pre W → w.heap.size ≤ W.heap.size → w.heap.size + 1 < b → (pre ++ [x]) <+: Z → RowAt W (.slice (some ⟨b, 0, none⟩) sz sz) x → body.wpIn (F.inRound l) (n - 1 - 1) P (visPost w.heap.size T I Ix (pre ++ [x]) W) (a₁ b) W)
    (hdone : ∀ (D : Nat) (W : World), I Z W → w.heap.size ≤ D → W.heap[D]? = some (.deferred (some [])) → Q .normal { a with defers := { target := .collected D, args := #[] } :: a.defers } W)
    (hstop : ∀ (D : Nat) (c : Code) (pre : List (List Int)) (W : World), pre <+: Z → pre ≠ [] → Ix c pre W → w.heap.size ≤ D → W.heap[D]? = some (.deferred (some [])) → c.wpIn F n P Q { a with defers := { target := .collected D, args := #[] } :: a.defers } W) :
    (Code.rangeFunc g ps assign body).wpIn F n P Q a w := by
  refine wpIn_rangeFunc ?_
  intro fn hfn
  rw [hro]
  obtain ⟨rec, hrec⟩ : ∃ rec : LoopState → Option Code → Loop, rec = fun st pe => { state := st, pending := pe, fn, tmps := a.tmps, params := ps, assign, body, defers := w.heap.size } := ⟨_, rfl⟩
  obtain ⟨W1, hW1⟩ : ∃ W1, (w.alloc (.deferred (some []))).alloc (.loop (rec .ready none)) = W1 := ⟨_, rfl⟩
  have hL1 : W1.heap[w.heap.size + 1]? = some (.loop (rec .ready none)) := by
    rw [← hW1]; have := World.alloc_heap_new (w.alloc (.deferred (some []))) (.loop (rec .ready none)); rwa [World.size_alloc] at this
  have hK1 : W1.heap[w.heap.size]? = some (.deferred (some [])) := by
    rw [← hW1]; exact (Below.heap_alloc _ _ _ (by simp)).trans (World.alloc_heap_new w _)
  have hb1 : Below w.heap.size w W1 := by
    rw [← hW1]; exact ((Below.refl _ w).alloc (Nat.le_refl _) _).alloc (by simp) _
  have hI1 : I [] W1 := hI _ _ _ h0 hb1
  have hsz1 : W1.heap.size = w.heap.size + 2 := by rw [← hW1]; simp
  refine ⟨w.heap.size + 1, [{ target := .collected w.heap.size, args := #[] }], W1, { target := .fn (.func gf) lb, args := #[.func (.yield (w.heap.size + 1)) #[] #[]] }, W1, gf,
    #[.func (.yield (w.heap.size + 1)) #[] #[]] ++ lb, W1, ?_, ?_, ?_, ?_, fun _ => h1, ?_⟩
  · rw [← hW1, hrec]; exact run_enterLoop_outer _ _ _ _ _
  · simp only [resolve, hg]
    simp [go_sem]
  · intro f' hf'; simp [Target.leads] at hf'; subst hf'; exact hFg
  · simp [invoke, go_sem, eg]
  · refine (hseq (w.heap.size + 1)
      (fun pre W => I pre W ∧ W.heap[w.heap.size + 1]? = some (.loop (rec .ready none)) ∧ W.heap[w.heap.size]? = some (.deferred (some [])))
      (fun pre W => ∃ c, Ix c pre W ∧ W.heap[w.heap.size + 1]? = some (.loop (rec .done (some c))) ∧ W.heap[w.heap.size]? = some (.deferred (some [])))
      W1 hb1 (by omega) (by omega)
      (fun s A B hs hb => ⟨hI s A B hs.1 (hb.mono (by omega)), (hb.block _ (by omega)).trans hs.2.1, (hb.block _ (by omega)).trans hs.2.2⟩)
      ?_ ⟨hI1, hL1, hK1⟩).mono ?_
    · -- one round
      rintro pre x b W ⟨hi, hl, hk⟩ hsz hbW hpx hrow
      rw [hsz1] at hbW
      have hlt : w.heap.size + 1 < W.heap.size := (Array.getElem?_eq_some_iff.1 hl).1
      have hy := run_yield (P := P) (args := #[.slice (some ⟨b, 0, none⟩) sz sz]) hl (by rw [hrec]; exact hps.symm)
      rw [hrec] at hy
      refine ⟨fn, _, assign, body, hy, roundIn_of_wpIn hfn (hassign _ b W _ ⟨_, run_beginRound hl (by rw [hrec]), ?_⟩)⟩
      have hl2 : (W.putObj (w.heap.size + 1) (.loop { rec .ready none with state := .busy })).heap[w.heap.size + 1]? = some (.loop { rec .ready none with state := .busy }) := World.putObj_heap_same hlt
      have hk2 : (W.putObj (w.heap.size + 1) (.loop { rec .ready none with state := .busy })).heap[w.heap.size]? = some (.deferred (some [])) := (World.putObj_heap_other (by omega)).trans hk
      have hsz2 : (W.putObj (w.heap.size + 1) (.loop { rec .ready none with state := .busy })).heap.size = W.heap.size := by simp
      refine wpIn_mono (hbody _ pre x b _ (hI _ _ _ hi (below_put W _ _ (by omega) hlt)) (by rw [hsz2]; omega) (by omega) hpx (hrow.but (KeepsBut.putObj (T := fun k => k = w.heap.size + 1) W _ _ rfl) (by omega))) ?_
      have fin : ∀ (jump : Option Code) (W3 : World), KeepsBut (fun k => k < w.heap.size) (W.putObj (w.heap.size + 1) (.loop { rec .ready none with state := .busy })) W3 →
          (Instr.endRound (w.heap.size + 1) jump).run P W3 = .ok (.bool jump.isNone) (W3.putObj (w.heap.size + 1) (.loop (rec (if jump.isNone then .ready else .done) jump))) ∧
          W3.heap[w.heap.size + 1]? = some (.loop { rec .ready none with state := .busy }) ∧
          (W3.putObj (w.heap.size + 1) (.loop (rec (if jump.isNone then .ready else .done) jump))).heap[w.heap.size + 1]? = some (.loop (rec (if jump.isNone then .ready else .done) jump)) ∧
          (W3.putObj (w.heap.size + 1) (.loop (rec (if jump.isNone then .ready else .done) jump))).heap[w.heap.size]? = some (.deferred (some [])) := fun jump W3 hk3 => by
        have hl3 := (hk3.2 _ (by rw [hsz2]; omega) (by omega)).trans hl2
        have := run_endRound (P := P) jump hl3
        rw [hrec] at this ⊢
        exact ⟨this, by rw [hrec] at hl3; exact hl3, World.putObj_heap_same (Array.getElem?_eq_some_iff.1 hl3).1, (World.putObj_heap_other (by omega)).trans ((hk3.2 _ (by rw [hsz2]; omega) (by omega)).trans hk2)⟩
      rintro e a3 W3 hp
      have close : ∀ {I' : World → Prop} (jump : Option Code), (∀ A B, I' A → Below w.heap.size A B → I' B) → I' W3 → W3.heap[w.heap.size + 1]? = some (.loop { rec .ready none with state := .busy }) → I' (W3.putObj (w.heap.size + 1) (.loop (rec (if jump.isNone then .ready else .done) jump))) :=
        fun jump hI' hi' hl' => hI' _ _ hi' (below_put W3 _ _ (by omega) (Array.getElem?_eq_some_iff.1 hl').1)
      cases e with
      | normal =>
        obtain ⟨hk3, hi3⟩ := hp
        obtain ⟨hr, hl3, hl4, hk4⟩ := fin none W3 (hk3.mono hT)
        exact ⟨_, _, hr, .inl ⟨rfl, ⟨close none (hI _) hi3 hl3, hl4, hk4⟩, ((KeepsBut.putObj W _ _ (Or.inr rfl)).trans (hk3.mono (fun k hk => Or.inl hk))).trans (KeepsBut.putObj W3 _ _ (Or.inr rfl))⟩⟩
      | ret =>
        obtain ⟨hk3, hi3⟩ := hp
        obtain ⟨hr, hl3, hl4, hk4⟩ := fin (some .ret) W3 hk3
        exact ⟨_, _, hr, .inr ⟨rfl, ⟨.ret, hIx _ _ _ _ _ hi3 hl3, hl4, hk4⟩, ((KeepsBut.putObj W _ _ (Or.inr rfl)).trans (hk3.mono (fun k hk => Or.inl hk))).trans (KeepsBut.putObj W3 _ _ (Or.inr rfl))⟩⟩
      | exit id =>
        obtain ⟨hk3, hi3⟩ := hp
        obtain ⟨hr, hl3, hl4, hk4⟩ := fin (some (.exit id)) W3 hk3
        exact ⟨_, _, hr, .inr ⟨rfl, ⟨.exit id, hIx _ _ _ _ _ hi3 hl3, hl4, hk4⟩, ((KeepsBut.putObj W _ _ (Or.inr rfl)).trans (hk3.mono (fun k hk => Or.inl hk))).trans (KeepsBut.putObj W3 _ _ (Or.inr rfl))⟩⟩
      | goto t =>
        obtain ⟨hk3, hi3⟩ := hp
        obtain ⟨hr, hl3, hl4, hk4⟩ := fin (some (.goto t)) W3 hk3
        exact ⟨_, _, hr, .inr ⟨rfl, ⟨.goto t, hIx _ _ _ _ _ hi3 hl3, hl4, hk4⟩, ((KeepsBut.putObj W _ _ (Or.inr rfl)).trans (hk3.mono (fun k hk => Or.inl hk))).trans (KeepsBut.putObj W3 _ _ (Or.inr rfl))⟩⟩
      | panic ch => exact hp.elim
      | outgrown => exact hp.elim
    · -- behind the iterator
      rintro e W2 ⟨⟨v, rfl⟩, (⟨hi, hl, hk⟩ | ⟨pre, hSp, hne, c, hi, hl, hk⟩)⟩
      · exact ⟨none, _, by have := run_endLoop (P := P) hl (by rw [hrec]; simp); rw [hrec] at this; exact this, hdone _ _ (hI _ _ _ hi (below_put W2 _ _ (by omega) (Array.getElem?_eq_some_iff.1 hl).1)) (Nat.le_refl _) ((World.putObj_heap_other (by omega)).trans hk)⟩
      · exact ⟨some c, _, by have := run_endLoop (P := P) hl (by rw [hrec]; simp); rw [hrec] at this; exact this, hstop _ c pre _ hSp hne (hIx _ _ _ _ _ hi hl) (Nat.le_refl _) ((World.putObj_heap_other (by omega)).trans hk)⟩

end Go.Proofs.YtohjfcfcopbmoaaGreatDoor

/- Walks: all lists, one after another, by a closure that calls itself. -/
namespace Go.Proofs.YtohjfcfcopbmoaaGreatDoor
open Go.RowKit Go.Shelf
attribute [local go_sem] Oper.semAt_some

/-- All elements are below 16. -/
def InL (xs : List Int) : Prop := ∀ i, i < xs.length → 0 ≤ nth xs i ∧ nth xs i < 16
theorem InL.nil : InL [] := fun i hi => absurd hi (by simp)
theorem InL.snoc {xs : List Int} {v : Int} (h : InL xs) (h0 : 0 ≤ v) (h1 : v < 16) : InL (xs ++ [v]) := fun i hi => by
  rw [List.length_append, List.length_singleton] at hi
  by_cases e : i < xs.length
  · rw [nth_app_lt e]; exact h i e
  · obtain rfl : i = xs.length := by omega
    rw [nth_app_at]; exact ⟨h0, h1⟩
theorem InL.i64 {xs : List Int} (h : InL xs) : ∀ x ∈ xs, I64 x := fun x hx => by
  obtain ⟨i, hi, e⟩ := List.getElem_of_mem hx
  have := h i hi
  rw [nth_eq hi, e] at this
  unfold I64; omega

/-- What is asked of a choice: whatever has come since w but to the blocks of T, it tells C of the list. -/
def ChoiceAt (T : Nat → Prop) (w : World) (cf : Nat) (lb : Array Value) (sz : Nat) (C : List Int → Nat) : Prop :=
  ∀ (W : World) (v : Value) (xs : List Int), KeepsBut T w W → RowAt W v xs → InL xs → xs.length < sz →
    Calls Tryz.prog cf (#[v] ++ lb) W fun e W' => e = .returned (.int .u32 (C xs : Int)) ∧ Below W.heap.size W W'

theorem OwnRow.blkB {T : TypeId} {w w' : World} {B b n c : Nat} {xs : List Int} (h : OwnRow T w B (.slice (some ⟨b, 0, none⟩) n c) xs) (hb : w'.heap[b]? = w.heap[b]?) : OwnRow T w' B (.slice (some ⟨b, 0, none⟩) n c) xs := by
  obtain ⟨h1, h2, h3⟩ := h
  refine ⟨h1, h2, ?_⟩
  rcases h3 with h3 | ⟨g, cap, cur, e, hg, hh, r⟩
  · exact Or.inl h3
  · refine Or.inr ⟨g, cap, cur, e, hg, ?_, r⟩
    simp only [Value.slice.injEq, Option.some.injEq, Addr.mk.injEq] at e
    rw [← e.1.1] at hh ⊢
    rw [hb]; exact hh
/-- One more at the end, where there is room. -/
theorem OwnRow.room {T : TypeId} {w : World} {B b sz : Nat} {xs : List Int} (h : OwnRow T w B (.slice (some ⟨b, 0, none⟩) xs.length sz) xs) (hlt : xs.length < sz) {x : Int} (hx : I64 x) :
    OwnRow T (w.setCell ⟨b, xs.length, none⟩ (.int .i64 x)) B (.slice (some ⟨b, 0, none⟩) (xs.length + 1) sz) (xs ++ [x]) ∧ OwnRow T (w.setCell ⟨b, xs.length, none⟩ (.int .i64 x)) B (.slice (some ⟨b, 0, none⟩) xs.length sz) xs ∧
      (w.cell? ⟨b, xs.length, none⟩).isSome = true ∧ w.frozen? ⟨b, xs.length, none⟩ = false ∧ b < w.heap.size := by
  obtain ⟨h1, h2, h3⟩ := h
  rcases h3 with ⟨e, _⟩ | ⟨g, cap, cur, e, hgB, hh, l1, l2, hs, hc⟩
  · simp at e
  · simp only [Value.slice.injEq, Option.some.injEq, Addr.mk.injEq, and_true, true_and] at e
    obtain ⟨rfl, rfl⟩ := e
    have hm : xs.length + 1 ≤ maxLen := by omega
    refine ⟨⟨fun y hy => ?_, by simpa using hm, Or.inr ⟨b, sz, cur.set! xs.length (.int .i64 x), by simp, hgB, heap_setCell_same w b _ _ _ _ hh, by simp; omega, l2, by simp [hs], fun i hi => ?_⟩⟩,
      ⟨h1, h2, Or.inr ⟨b, sz, cur.set! xs.length (.int .i64 x), rfl, hgB, heap_setCell_same w b _ _ _ _ hh, l1, l2, by simp [hs], fun i hi => ?_⟩⟩, ?_, frozen_of_row w b _ cur T hh, (Array.getElem?_eq_some_iff.1 hh).1⟩
    · rcases List.mem_append.1 hy with hy | hy
      · exact h1 y hy
      · simp at hy; subst hy; exact hx
    · rw [List.length_append, List.length_singleton] at hi
      by_cases e : i < xs.length
      · rw [nth_app_lt e, ← hc i e]; simp [show xs.length ≠ i from by omega]
      · obtain rfl : i = xs.length := by omega
        rw [nth_app_at]
        have : xs.length < cur.size := by omega
        simp [this]
    · rw [← hc i hi]; simp [show xs.length ≠ i from by omega]
    · rw [cell_of_row w b _ cur T _ hh]
      have : xs.length < cur.size := by omega
      simp [this]

theorem enum_take {C : List Int → Nat} {r : Nat} {xs : List Int} : enumL C (r + 1) xs = (listM (C xs)).flatMap (fun v => enumL C r (xs ++ [v])) := rfl
/-- What has come of the first q choices. -/
def enumTo (C : List Int → Nat) (r : Nat) (xs : List Int) (q : Nat) : List (List Int) := ((listM (C xs)).take q).flatMap (fun v => enumL C r (xs ++ [v]))
theorem enumTo_succ {C : List Int → Nat} {r : Nat} {xs : List Int} {q : Nat} (h : q < (listM (C xs)).length) : enumTo C r xs (q + 1) = enumTo C r xs q ++ enumL C r (xs ++ [nth (listM (C xs)) q]) := by
  unfold enumTo
  rw [List.take_succ_eq_append_getElem h, List.flatMap_append, nth_eq h]
  simp
theorem enumTo_all {C : List Int → Nat} {r : Nat} {xs : List Int} : enumTo C r xs (listM (C xs)).length = enumL C (r + 1) xs := by
  unfold enumTo; rw [List.take_length]; rfl
theorem enumTo_prefix {C : List Int → Nat} {r : Nat} {xs : List Int} {q : Nat} : enumTo C r xs q <+: enumL C (r + 1) xs := by
  rw [enum_take]
  unfold enumTo
  conv => rhs; rw [← List.take_append_drop q (listM (C xs)), List.flatMap_append]
  exact List.prefix_append _ _

/-- How a call of the closure ends. -/
def ExtPost (T : Nat → Prop) (w W : World) (l b sz : Nat) (Z : List (List Int)) (J Jx : List (List Int) → World → Prop) (pre : List (List Int)) (xs : List Int) (W1 : World) (e : Ending) (W' : World) : Prop :=
  ∃ t, e = .returned (.bool t) ∧ ((t = true ∧ J pre W' ∧ OwnRow 2 W' W.heap.size (.slice (some ⟨b, 0, none⟩) xs.length sz) xs ∧ KeepsBut (fun k => T k ∨ k = l ∨ k = b) W1 W') ∨
  (t = false ∧ KeepsBut (fun k => k < w.heap.size ∨ k = l ∨ k = b) W1 W' ∧ ∃ pre', pre' <+: Z ∧ pre' ≠ [] ∧ Jx pre' W'))

theorem lit_at (w : World) (x : Int) (T : TypeId) : ∀ j u, ([Value.int .i64 x] : List Value)[j]? = some u → (w.alloc (.cells #[.int .i64 x] T)).drew.cell? ((⟨w.heap.size, 0, none⟩ : Addr).add j) = some u := by
  intro j u h
  match j, h with
  | 0, h => simp at h; subst h; simp only [Addr.add]; exact cell_keep ((Below.refl _ _).drew) (by go_simp)
theorem one_cell (x : Int) : ∀ u ∈ ([Value.int .i64 x] : List Value), u.oneCell' = true := by
  intro u hu
  simp at hu
  subst hu
  rfl

theorem keeps_less {T : Nat → Prop} {l b : Nat} {w W1 W4 : World} (h : KeepsBut T w W1) (h' : KeepsBut (fun k => T k ∨ k = l ∨ k = b) W1 W4) (hl : w.heap.size ≤ l) (hb : w.heap.size ≤ b) : KeepsBut T w W4 :=
  ⟨Nat.le_trans h.1 h'.1, fun k hk hn => (h'.2 k (Nat.lt_of_lt_of_le hk h.1) (fun h => by rcases h with h | h | h; exact hn h; omega; omega)).trans (h.2 k hk hn)⟩
theorem OwnRow.less {T : TypeId} {w : World} {B b n sz : Nat} {xs : List Int} {x : Int} (h : OwnRow T w B (.slice (some ⟨b, 0, none⟩) n sz) (xs ++ [x])) : OwnRow T w B (.slice (some ⟨b, 0, none⟩) xs.length sz) xs := by
  obtain ⟨h1, h2, h3⟩ := h
  refine ⟨fun y hy => h1 y (List.mem_append_left _ hy), by simp at h2; omega, ?_⟩
  rcases h3 with ⟨e, _⟩ | ⟨g, cap, cur, e, hgB, hh, l1, l2, hs, hc⟩
  · simp at e
  · simp only [Value.slice.injEq, Option.some.injEq, Addr.mk.injEq, and_true, true_and] at e
    obtain ⟨rfl, e2, rfl⟩ := e
    simp at l1
    refine Or.inr ⟨b, sz, cur, rfl, hgB, hh, by omega, l2, hs, fun i hi => ?_⟩
    rw [hc i (by simp; omega), nth_app_lt hi]

end Go.Proofs.YtohjfcfcopbmoaaGreatDoor
