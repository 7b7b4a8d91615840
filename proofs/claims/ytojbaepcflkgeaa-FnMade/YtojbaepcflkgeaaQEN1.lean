/- The texts EN1, EN2, joined. -/
import Derived.Test.YtojbaepcflkgeaaX1
import Derived.Test.YtojbaepcflkgeaaEM1
import Derived.Test.YtojbaepcflkgeaaQF6
import Derived.Test.YtojbaepcflkgeaaQW2
import Derived.RangeFuncNested
import Derived.RangeFuncBound
import Derived.RangeFuncCalls
import Derived.RangeFuncLeaves
import Derived.Shelf.Abstract
import Derived.Shelf.RegionOpen
import Derived.OwnWalkIn
import Derived.TacticsInMore
import Derived.LoopNIn
import Derived.LoopIn
import Derived.Deep.RegionLaw
import Derived.Laws.EntriesVeiled

/- A law of loops over an iterator that hands out one and the same memory, filled anew for each round. No statement of the program. -/
namespace Go.Proofs.Ytojbaepcflkgeaa
open Go.RowKit

theorem RowAt.but {T : Nat → Prop} {w w' : World} {b n c : Nat} {x : List Int} (h : RowAt w (.slice (some ⟨b, 0, none⟩) n c) x) (hk : KeepsBut T w w') (hb : ¬ T b) : RowAt w' (.slice (some ⟨b, 0, none⟩) n c) x := by
  obtain ⟨h1, h2, h3⟩ := h
  refine ⟨h1, h2, ?_⟩
  rcases h3 with h3 | ⟨b', o, c', e, l1, l2, hc⟩
  · exact Or.inl h3
  · refine Or.inr ⟨b', o, c', e, l1, l2, fun i hi => ?_⟩
    simp only [Value.slice.injEq, Option.some.injEq, Addr.mk.injEq] at e
    exact hk.cell (by show ¬ T b'; rw [← e.1.1]; exact hb) (hc i hi)

/-- What an iterator promises that hands out lists in one memory of its own, one after another. -/
def SeqRow (F : Fence) (n : Nat) (P : Program) (g : Nat) (lb : Array Value) (T : Nat → Prop) (sz : Nat) (Z : List (List Int)) (w : World) : Prop :=
  ∀ (l : Nat) (J Jx : List (List Int) → World → Prop) (W : World), Below w.heap.size w W → w.heap.size ≤ l → l < W.heap.size →
    (∀ s A B, J s A → Below W.heap.size A B → J s B) →
    (∀ pre x b W1, J pre W1 → W.heap.size ≤ W1.heap.size → W.heap.size ≤ b → (pre ++ [x]) <+: Z → RowAt W1 (.slice (some ⟨b, 0, none⟩) sz sz) x → YieldAt F (n - 1) P l #[.slice (some ⟨b, 0, none⟩) sz sz] W1 fun e W' =>
      (e = .returned (.bool true) ∧ J (pre ++ [x]) W' ∧ KeepsBut (fun k => T k ∨ k = l) W1 W') ∨ (e = .returned (.bool false) ∧ Jx (pre ++ [x]) W' ∧ KeepsBut (fun k => k < w.heap.size ∨ k = l) W1 W')) →
    J [] W →
    CallsIn F n P g (#[.func (.yield l) #[] #[]] ++ lb) W fun e W' => (∃ v, e = .returned v) ∧ (J Z W' ∨ (∃ pre, pre <+: Z ∧ pre ≠ [] ∧ Jx pre W'))

variable {F : Fence} {n : Nat} {P : Program}

theorem wpIn_rangeFunc_row {g : Operand} {ps : Array Tmp} {assign body : Code} {Q : Exit → Act → World → Prop} {a : Act} {w : World}
    (hro : F.round = none) (h1 : 1 ≤ n) {gf : Nat} {lb : Array Value} (hg : a.eval g = .func (.func gf) #[] lb) (hFg : F.fn gf) (eg : ∀ args w, (callFunc gf args).run P w = .ok (.enter gf args) w)
    {T : Nat → Prop} {sz : Nat} {Z : List (List Int)} (hseq : SeqRow F (n - 1) P gf lb T sz Z w)
    (hT : ∀ k, T k → k < w.heap.size) (hps : ps.size = 1)
    (I : List (List Int) → World → Prop) (Ix : Code → List (List Int) → World → Prop) (hI : ∀ s A B, I s A → Below w.heap.size A B → I s B) (hIx : ∀ c s A r o, Ix c s A → A.heap[w.heap.size + 1]? = some (.loop r) → Ix c s (A.putObj (w.heap.size + 1) o)) (h0 : I [] w) (a₁ : Nat → Act)
    (hassign : ∀ (l b : Nat) (W : World) (K : Act → World → Prop), K (a₁ b) W →
      assign.wpIn (F.inRound l) (n - 1 - 1) P (Exit.then K (fun _ _ _ => False)) { tmps := (ps.zip #[.slice (some ⟨b, 0, none⟩) sz sz]).foldl (fun t (p, v) => t.setIfInBounds p v) a.tmps, defers := [] } W)
    (hbody : ∀ (l : Nat) (pre : List (List Int)) (x : List Int) (b : Nat) (W : World), I pre W → w.heap.size ≤ W.heap.size → w.heap.size + 1 < b → (pre ++ [x]) <+: Z → RowAt W (.slice (some ⟨b, 0, none⟩) sz sz) x → body.wpIn (F.inRound l) (n - 1 - 1) P (visPost w.heap.size T I Ix (pre ++ [x]) W) (a₁ b) W)
    (hdone : ∀ (D : Nat) (W : World), I Z W → w.heap.size ≤ D → W.heap[D]? = some (.deferred (some [])) → Q .normal { a with defers := { target := .collected D, args := #[] } :: a.defers } W)
    (hstop : ∀ (D : Nat) (c : Code) (pre : List (List Int)) (W : World), pre <+: Z → pre ≠ [] → Ix c pre W → w.heap.size ≤ D → W.heap[D]? = some (.deferred (some [])) → c.wpIn F n P Q { a with defers := { target := .collected D, args := #[] } :: a.defers } W) :
    (Code.rangeFunc g ps assign body).wpIn F n P Q a w := by
  refine wpIn_rangeFunc ?_
  intro fn hfn
  rw [hro]
  obtain ⟨rec, hrec⟩ : ∃ rec : LoopState → Option Code → Loop, rec = fun st pe => { state := st, pending := pe, fn, tmps := a.tmps, params := ps, assign, body, defers := w.heap.size } := ⟨_, rfl⟩
  obtain ⟨W1, hW1⟩ : ∃ W1, (w.alloc (.deferred (some []))).alloc (.loop (rec .ready none)) = W1 := ⟨_, rfl⟩
  have hL1 : W1.heap[w.heap.size + 1]? = some (.loop (rec .ready none)) := by
    rw [← hW1]; have := World.alloc_heap_new (w.alloc (.deferred (some []))) (.loop (rec .ready none)); rwa [World.size_alloc] at this
  have hK1 : W1.heap[w.heap.size]? = some (.deferred (some [])) := by
    rw [← hW1]; exact (Below.heap_alloc _ _ _ (by simp)).trans (World.alloc_heap_new w _)
  have hb1 : Below w.heap.size w W1 := by
    rw [← hW1]; exact ((Below.refl _ w).alloc (Nat.le_refl _) _).alloc (by simp) _
  have hI1 : I [] W1 := hI _ _ _ h0 hb1
  have hsz1 : W1.heap.size = w.heap.size + 2 := by rw [← hW1]; simp
  refine ⟨w.heap.size + 1, [{ target := .collected w.heap.size, args := #[] }], W1, { target := .fn (.func gf) lb, args := #[.func (.yield (w.heap.size + 1)) #[] #[]] }, W1, gf,
    #[.func (.yield (w.heap.size + 1)) #[] #[]] ++ lb, W1, ?_, ?_, ?_, ?_, fun _ => h1, ?_⟩
  · rw [← hW1, hrec]; exact run_enterLoop_outer _ _ _ _ _
  · simp only [resolve, hg]
    simp [go_sem]
  · intro f' hf'; simp [Target.leads] at hf'; subst hf'; exact hFg
  · simp [invoke, go_sem, eg]
  · refine (hseq (w.heap.size + 1)
      (fun pre W => I pre W ∧ W.heap[w.heap.size + 1]? = some (.loop (rec .ready none)) ∧ W.heap[w.heap.size]? = some (.deferred (some [])))
      (fun pre W => ∃ c, Ix c pre W ∧ W.heap[w.heap.size + 1]? = some (.loop (rec .done (some c))) ∧ W.heap[w.heap.size]? = some (.deferred (some [])))
      W1 hb1 (by omega) (by omega)
      (fun s A B hs hb => ⟨hI s A B hs.1 (hb.mono (by omega)), (hb.block _ (by omega)).trans hs.2.1, (hb.block _ (by omega)).trans hs.2.2⟩)
      ?_ ⟨hI1, hL1, hK1⟩).mono ?_
    · -- one round
      rintro pre x b W ⟨hi, hl, hk⟩ hsz hbW hpx hrow
      rw [hsz1] at hbW
      have hlt : w.heap.size + 1 < W.heap.size := (Array.getElem?_eq_some_iff.1 hl).1
      have hy := run_yield (P := P) (args := #[.slice (some ⟨b, 0, none⟩) sz sz]) hl (by rw [hrec]; exact hps.symm)
      rw [hrec] at hy
      refine ⟨fn, _, assign, body, hy, roundIn_of_wpIn hfn (hassign _ b W _ ⟨_, run_beginRound hl (by rw [hrec]), ?_⟩)⟩
      have hl2 : (W.putObj (w.heap.size + 1) (.loop { rec .ready none with state := .busy })).heap[w.heap.size + 1]? = some (.loop { rec .ready none with state := .busy }) := World.putObj_heap_same hlt
      have hk2 : (W.putObj (w.heap.size + 1) (.loop { rec .ready none with state := .busy })).heap[w.heap.size]? = some (.deferred (some [])) := (World.putObj_heap_other (by omega)).trans hk
      have hsz2 : (W.putObj (w.heap.size + 1) (.loop { rec .ready none with state := .busy })).heap.size = W.heap.size := by simp
      refine wpIn_mono (hbody _ pre x b _ (hI _ _ _ hi (below_put W _ _ (by omega) hlt)) (by rw [hsz2]; omega) (by omega) hpx (hrow.but (KeepsBut.putObj (T := fun k => k = w.heap.size + 1) W _ _ rfl) (by omega))) ?_
      have fin : ∀ (jump : Option Code) (W3 : World), KeepsBut (fun k => k < w.heap.size) (W.putObj (w.heap.size + 1) (.loop { rec .ready none with state := .busy })) W3 →
          (Instr.endRound (w.heap.size + 1) jump).run P W3 = .ok (.bool jump.isNone) (W3.putObj (w.heap.size + 1) (.loop (rec (if jump.isNone then .ready else .done) jump))) ∧
          W3.heap[w.heap.size + 1]? = some (.loop { rec .ready none with state := .busy }) ∧
          (W3.putObj (w.heap.size + 1) (.loop (rec (if jump.isNone then .ready else .done) jump))).heap[w.heap.size + 1]? = some (.loop (rec (if jump.isNone then .ready else .done) jump)) ∧
          (W3.putObj (w.heap.size + 1) (.loop (rec (if jump.isNone then .ready else .done) jump))).heap[w.heap.size]? = some (.deferred (some [])) := fun jump W3 hk3 => by
        have hl3 := (hk3.2 _ (by rw [hsz2]; omega) (by omega)).trans hl2
        have := run_endRound (P := P) jump hl3
        rw [hrec] at this ⊢
        exact ⟨this, by rw [hrec] at hl3; exact hl3, World.putObj_heap_same (Array.getElem?_eq_some_iff.1 hl3).1, (World.putObj_heap_other (by omega)).trans ((hk3.2 _ (by rw [hsz2]; omega) (by omega)).trans hk2)⟩
      rintro e a3 W3 hp
      have close : ∀ {I' : World → Prop} (jump : Option Code), (∀ A B, I' A → Below w.heap.size A B → I' B) → I' W3 → W3.heap[w.heap.size + 1]? = some (.loop { rec .ready none with state := .busy }) → I' (W3.putObj (w.heap.size + 1) (.loop (rec (if jump.isNone then .ready else .done) jump))) :=
        fun jump hI' hi' hl' => hI' _ _ hi' (below_put W3 _ _ (by omega) (Array.getElem?_eq_some_iff.1 hl').1)
      cases e with
      | normal =>
        obtain ⟨hk3, hi3⟩ := hp
        obtain ⟨hr, hl3, hl4, hk4⟩ := fin none W3 (hk3.mono hT)
        exact ⟨_, _, hr, .inl ⟨rfl, ⟨close none (hI _) hi3 hl3, hl4, hk4⟩, ((KeepsBut.putObj W _ _ (Or.inr rfl)).trans (hk3.mono (fun k hk => Or.inl hk))).trans (KeepsBut.putObj W3 _ _ (Or.inr rfl))⟩⟩
      | ret =>
        obtain ⟨hk3, hi3⟩ := hp
        obtain ⟨hr, hl3, hl4, hk4⟩ := fin (some .ret) W3 hk3
        exact ⟨_, _, hr, .inr ⟨rfl, ⟨.ret, hIx _ _ _ _ _ hi3 hl3, hl4, hk4⟩, ((KeepsBut.putObj W _ _ (Or.inr rfl)).trans (hk3.mono (fun k hk => Or.inl hk))).trans (KeepsBut.putObj W3 _ _ (Or.inr rfl))⟩⟩
      | exit id =>
        obtain ⟨hk3, hi3⟩ := hp
        obtain ⟨hr, hl3, hl4, hk4⟩ := fin (some (.exit id)) W3 hk3
        exact ⟨_, _, hr, .inr ⟨rfl, ⟨.exit id, hIx _ _ _ _ _ hi3 hl3, hl4, hk4⟩, ((KeepsBut.putObj W _ _ (Or.inr rfl)).trans (hk3.mono (fun k hk => Or.inl hk))).trans (KeepsBut.putObj W3 _ _ (Or.inr rfl))⟩⟩
      | goto t =>
        obtain ⟨hk3, hi3⟩ := hp
        obtain ⟨hr, hl3, hl4, hk4⟩ := fin (some (.goto t)) W3 hk3
        exact ⟨_, _, hr, .inr ⟨rfl, ⟨.goto t, hIx _ _ _ _ _ hi3 hl3, hl4, hk4⟩, ((KeepsBut.putObj W _ _ (Or.inr rfl)).trans (hk3.mono (fun k hk => Or.inl hk))).trans (KeepsBut.putObj W3 _ _ (Or.inr rfl))⟩⟩
      | panic ch => exact hp.elim
      | outgrown => exact hp.elim
    · -- behind the iterator
      rintro e W2 ⟨⟨v, rfl⟩, (⟨hi, hl, hk⟩ | ⟨pre, hSp, hne, c, hi, hl, hk⟩)⟩
      · exact ⟨none, _, by have := run_endLoop (P := P) hl (by rw [hrec]; simp); rw [hrec] at this; exact this, hdone _ _ (hI _ _ _ hi (below_put W2 _ _ (by omega) (Array.getElem?_eq_some_iff.1 hl).1)) (Nat.le_refl _) ((World.putObj_heap_other (by omega)).trans hk)⟩
      · exact ⟨some c, _, by have := run_endLoop (P := P) hl (by rw [hrec]; simp); rw [hrec] at this; exact this, hstop _ c pre _ hSp hne (hIx _ _ _ _ _ hi hl) (Nat.le_refl _) ((World.putObj_heap_other (by omega)).trans hk)⟩

end Go.Proofs.Ytojbaepcflkgeaa

/- Walks: all lists, one after another, by a closure that calls itself. -/
namespace Go.Proofs.Ytojbaepcflkgeaa
open Go.RowKit Go.Shelf
attribute [local go_sem] Oper.semAt_some

set_option maxHeartbeats 1000000 in
theorem lists_any (sz : Nat) (fn : Fn) (fs lb : Array Value) (w : World) :
    Calls Try.prog 89 #[.int .i64 (sz : Int), .func fn fs lb] w fun e w' =>
      e = .returned (.func (.func 118) #[] #[.pointer (some ⟨w.heap.size, 0, none⟩), .pointer (some ⟨w.heap.size + 1, 0, none⟩)]) ∧
      w' = (w.alloc (.cells #[.int .i64 (sz : Int)] 2)).alloc (.cells #[.func fn fs lb] 101) := by
  have hmf : ∀ (fn : Fn) (first cap : Array Value) (w : World), (Instr.makeFunc fn first cap).run Try.prog w = .ok (.func fn first cap) w := fun _ _ _ _ => rfl
  go_enter Try.func89, Try.ntmps89
  go_wp2
  go_ret
  exact ⟨rfl, rfl⟩

/-- All elements are below 16. -/
def InL (xs : List Int) : Prop := ∀ i, i < xs.length → 0 ≤ nth xs i ∧ nth xs i < 16
theorem InL.nil : InL [] := fun i hi => absurd hi (by simp)
theorem InL.snoc {xs : List Int} {v : Int} (h : InL xs) (h0 : 0 ≤ v) (h1 : v < 16) : InL (xs ++ [v]) := fun i hi => by
  rw [List.length_append, List.length_singleton] at hi
  by_cases e : i < xs.length
  · rw [nth_app_lt e]; exact h i e
  · obtain rfl : i = xs.length := by omega
    rw [nth_app_at]; exact ⟨h0, h1⟩
theorem InL.i64 {xs : List Int} (h : InL xs) : ∀ x ∈ xs, I64 x := fun x hx => by
  obtain ⟨i, hi, e⟩ := List.getElem_of_mem hx
  have := h i hi
  rw [nth_eq hi, e] at this
  unfold I64; omega

/-- What is asked of a choice: whatever has come since w but to the blocks of T, it tells C of the list. -/
def ChoiceAt (T : Nat → Prop) (w : World) (cf : Nat) (lb : Array Value) (sz : Nat) (C : List Int → Nat) : Prop :=
  ∀ (W : World) (v : Value) (xs : List Int), KeepsBut T w W → RowAt W v xs → InL xs → xs.length < sz →
    Calls Try.prog cf (#[v] ++ lb) W fun e W' => e = .returned (.int .u32 (C xs : Int)) ∧ Below W.heap.size W W'

/-- What the closure reads. -/
structure ExtIn (w : World) (ps py pn pe sz l cf : Nat) (lb : Array Value) : Prop where
  s : w.cell? ⟨ps, 0, none⟩ = some (.int .i64 (sz : Int))
  y : w.cell? ⟨py, 0, none⟩ = some (.func (.yield l) #[] #[])
  n : w.cell? ⟨pn, 0, none⟩ = some (.func (.func cf) #[] lb)
  e : w.cell? ⟨pe, 0, none⟩ = some (.func (.func 119) #[] #[.pointer (some ⟨ps, 0, none⟩), .pointer (some ⟨py, 0, none⟩), .pointer (some ⟨pn, 0, none⟩), .pointer (some ⟨pe, 0, none⟩)])
theorem ExtIn.keep {w w' : World} {ps py pn pe sz l cf : Nat} {lb : Array Value} (h : ExtIn w ps py pn pe sz l cf lb) (hb : Below w.heap.size w w') : ExtIn w' ps py pn pe sz l cf lb :=
  ⟨cell_keep hb h.s, cell_keep hb h.y, cell_keep hb h.n, cell_keep hb h.e⟩
theorem ExtIn.but {T : Nat → Prop} {w w' : World} {ps py pn pe sz l cf : Nat} {lb : Array Value} (h : ExtIn w ps py pn pe sz l cf lb) (hb : KeepsBut T w w') (h1 : ¬ T ps) (h2 : ¬ T py) (h3 : ¬ T pn) (h4 : ¬ T pe) : ExtIn w' ps py pn pe sz l cf lb :=
  ⟨hb.cell h1 h.s, hb.cell h2 h.y, hb.cell h3 h.n, hb.cell h4 h.e⟩

theorem OwnRow.blkB {T : TypeId} {w w' : World} {B b n c : Nat} {xs : List Int} (h : OwnRow T w B (.slice (some ⟨b, 0, none⟩) n c) xs) (hb : w'.heap[b]? = w.heap[b]?) : OwnRow T w' B (.slice (some ⟨b, 0, none⟩) n c) xs := by
  obtain ⟨h1, h2, h3⟩ := h
  refine ⟨h1, h2, ?_⟩
  rcases h3 with h3 | ⟨g, cap, cur, e, hg, hh, r⟩
  · exact Or.inl h3
  · refine Or.inr ⟨g, cap, cur, e, hg, ?_, r⟩
    simp only [Value.slice.injEq, Option.some.injEq, Addr.mk.injEq] at e
    rw [← e.1.1] at hh ⊢
    rw [hb]; exact hh
/-- One more at the end, where there is room. -/
theorem OwnRow.room {T : TypeId} {w : World} {B b sz : Nat} {xs : List Int} (h : OwnRow T w B (.slice (some ⟨b, 0, none⟩) xs.length sz) xs) (hlt : xs.length < sz) {x : Int} (hx : I64 x) :
    OwnRow T (w.setCell ⟨b, xs.length, none⟩ (.int .i64 x)) B (.slice (some ⟨b, 0, none⟩) (xs.length + 1) sz) (xs ++ [x]) ∧ OwnRow T (w.setCell ⟨b, xs.length, none⟩ (.int .i64 x)) B (.slice (some ⟨b, 0, none⟩) xs.length sz) xs ∧
      (w.cell? ⟨b, xs.length, none⟩).isSome = true ∧ w.frozen? ⟨b, xs.length, none⟩ = false ∧ b < w.heap.size := by
  obtain ⟨h1, h2, h3⟩ := h
  rcases h3 with ⟨e, _⟩ | ⟨g, cap, cur, e, hgB, hh, l1, l2, hs, hc⟩
  · simp at e
  · simp only [Value.slice.injEq, Option.some.injEq, Addr.mk.injEq, and_true, true_and] at e
    obtain ⟨rfl, rfl⟩ := e
    have hm : xs.length + 1 ≤ maxLen := by omega
    refine ⟨⟨fun y hy => ?_, by simpa using hm, Or.inr ⟨b, sz, cur.set! xs.length (.int .i64 x), by simp, hgB, heap_setCell_same w b _ _ _ _ hh, by simp; omega, l2, by simp [hs], fun i hi => ?_⟩⟩,
      ⟨h1, h2, Or.inr ⟨b, sz, cur.set! xs.length (.int .i64 x), rfl, hgB, heap_setCell_same w b _ _ _ _ hh, l1, l2, by simp [hs], fun i hi => ?_⟩⟩, ?_, frozen_of_row w b _ cur T hh, (Array.getElem?_eq_some_iff.1 hh).1⟩
    · rcases List.mem_append.1 hy with hy | hy
      · exact h1 y hy
      · simp at hy; subst hy; exact hx
    · rw [List.length_append, List.length_singleton] at hi
      by_cases e : i < xs.length
      · rw [nth_app_lt e, ← hc i e]; simp [show xs.length ≠ i from by omega]
      · obtain rfl : i = xs.length := by omega
        rw [nth_app_at]
        have : xs.length < cur.size := by omega
        simp [this]
    · rw [← hc i hi]; simp [show xs.length ≠ i from by omega]
    · rw [cell_of_row w b _ cur T _ hh]
      have : xs.length < cur.size := by omega
      simp [this]

theorem enum_take {C : List Int → Nat} {r : Nat} {xs : List Int} : enumL C (r + 1) xs = (listM (C xs)).flatMap (fun v => enumL C r (xs ++ [v])) := rfl
/-- What has come of the first q choices. -/
def enumTo (C : List Int → Nat) (r : Nat) (xs : List Int) (q : Nat) : List (List Int) := ((listM (C xs)).take q).flatMap (fun v => enumL C r (xs ++ [v]))
theorem enumTo_succ {C : List Int → Nat} {r : Nat} {xs : List Int} {q : Nat} (h : q < (listM (C xs)).length) : enumTo C r xs (q + 1) = enumTo C r xs q ++ enumL C r (xs ++ [nth (listM (C xs)) q]) := by
  unfold enumTo
  rw [List.take_succ_eq_append_getElem h, List.flatMap_append, nth_eq h]
  simp
theorem enumTo_all {C : List Int → Nat} {r : Nat} {xs : List Int} : enumTo C r xs (listM (C xs)).length = enumL C (r + 1) xs := by
  unfold enumTo; rw [List.take_length]; rfl
theorem enumTo_prefix {C : List Int → Nat} {r : Nat} {xs : List Int} {q : Nat} : enumTo C r xs q <+: enumL C (r + 1) xs := by
  rw [enum_take]
  unfold enumTo
  conv => rhs; rw [← List.take_append_drop q (listM (C xs)), List.flatMap_append]
  exact List.prefix_append _ _

/-- How a call of the closure ends. -/
def ExtPost (T : Nat → Prop) (w W : World) (l b sz : Nat) (Z : List (List Int)) (J Jx : List (List Int) → World → Prop) (pre : List (List Int)) (xs : List Int) (W1 : World) (e : Ending) (W' : World) : Prop :=
  ∃ t, e = .returned (.bool t) ∧ ((t = true ∧ J pre W' ∧ OwnRow 2 W' W.heap.size (.slice (some ⟨b, 0, none⟩) xs.length sz) xs ∧ KeepsBut (fun k => T k ∨ k = l ∨ k = b) W1 W') ∨
  (t = false ∧ KeepsBut (fun k => k < w.heap.size ∨ k = l ∨ k = b) W1 W' ∧ ∃ pre', pre' <+: Z ∧ pre' ≠ [] ∧ Jx pre' W'))

theorem lit_at (w : World) (x : Int) (T : TypeId) : ∀ j u, ([Value.int .i64 x] : List Value)[j]? = some u → (w.alloc (.cells #[.int .i64 x] T)).drew.cell? ((⟨w.heap.size, 0, none⟩ : Addr).add j) = some u := by
  intro j u h
  match j, h with
  | 0, h => simp at h; subst h; simp only [Addr.add]; exact cell_keep ((Below.refl _ _).drew) (by go_simp)
theorem one_cell (x : Int) : ∀ u ∈ ([Value.int .i64 x] : List Value), u.oneCell' = true := by
  intro u hu
  simp at hu
  subst hu
  rfl

theorem keeps_less {T : Nat → Prop} {l b : Nat} {w W1 W4 : World} (h : KeepsBut T w W1) (h' : KeepsBut (fun k => T k ∨ k = l ∨ k = b) W1 W4) (hl : w.heap.size ≤ l) (hb : w.heap.size ≤ b) : KeepsBut T w W4 :=
  ⟨Nat.le_trans h.1 h'.1, fun k hk hn => (h'.2 k (Nat.lt_of_lt_of_le hk h.1) (fun h => by rcases h with h | h | h; exact hn h; omega; omega)).trans (h.2 k hk hn)⟩
theorem OwnRow.less {T : TypeId} {w : World} {B b n sz : Nat} {xs : List Int} {x : Int} (h : OwnRow T w B (.slice (some ⟨b, 0, none⟩) n sz) (xs ++ [x])) : OwnRow T w B (.slice (some ⟨b, 0, none⟩) xs.length sz) xs := by
  obtain ⟨h1, h2, h3⟩ := h
  refine ⟨fun y hy => h1 y (List.mem_append_left _ hy), by simp at h2; omega, ?_⟩
  rcases h3 with ⟨e, _⟩ | ⟨g, cap, cur, e, hgB, hh, l1, l2, hs, hc⟩
  · simp at e
  · simp only [Value.slice.injEq, Option.some.injEq, Addr.mk.injEq, and_true, true_and] at e
    obtain ⟨rfl, e2, rfl⟩ := e
    simp at l1
    refine Or.inr ⟨b, sz, cur, rfl, hgB, hh, by omega, l2, hs, fun i hi => ?_⟩
    rw [hc i (by simp; omega), nth_app_lt hi]

set_option maxHeartbeats 8000000 in
set_option maxRecDepth 100000 in
theorem extend_any (m : Nat) (T : Nat → Prop) (w W : World) (l ps py pn pe b sz cf : Nat) (lb : Array Value) (C : List Int → Nat) (Z : List (List Int)) (J Jx : List (List Int) → World → Prop)
    (ec : ∀ args w, (callFunc cf args).run Try.prog w = .ok (.enter cf args) w) (hch : ChoiceAt T w cf lb sz C) (hC : ∀ xs, C xs < 65536) (hsz : sz ≤ 16)
    (hW : Below w.heap.size w W) (hl1 : w.heap.size ≤ l) (hl2 : l < W.heap.size) (hT : ∀ k, T k → k < w.heap.size)
    (hps : ps < w.heap.size ∧ ¬ T ps) (hpn : pn < w.heap.size ∧ ¬ T pn) (hpy : W.heap.size ≤ py ∧ py ≠ b) (hpe : W.heap.size ≤ pe ∧ pe ≠ b) (hbW : W.heap.size ≤ b)
    (hJ : ∀ s A B, J s A → Below W.heap.size A B → J s B)
    (hY : ∀ pre x W1, J pre W1 → W.heap.size ≤ W1.heap.size → (pre ++ [x]) <+: Z → RowAt W1 (.slice (some ⟨b, 0, none⟩) sz sz) x → YieldAt Fence.wide (m - 1) Try.prog l #[.slice (some ⟨b, 0, none⟩) sz sz] W1 fun e W' =>
      (e = .returned (.bool true) ∧ J (pre ++ [x]) W' ∧ KeepsBut (fun k => T k ∨ k = l) W1 W') ∨ (e = .returned (.bool false) ∧ Jx (pre ++ [x]) W' ∧ KeepsBut (fun k => k < w.heap.size ∨ k = l) W1 W')) :
    ∀ (r : Nat) (xs : List Int) (pre : List (List Int)) (W1 : World), xs.length + r = sz → InL xs → KeepsBut T w W1 → W.heap.size ≤ W1.heap.size → J pre W1 → ExtIn W1 ps py pn pe sz l cf lb → OwnRow 2 W1 W.heap.size (.slice (some ⟨b, 0, none⟩) xs.length sz) xs → (pre ++ enumL C r xs) <+: Z →
      Calls Try.prog 119 #[.slice (some ⟨b, 0, none⟩) xs.length sz, .pointer (some ⟨ps, 0, none⟩), .pointer (some ⟨py, 0, none⟩), .pointer (some ⟨pn, 0, none⟩), .pointer (some ⟨pe, 0, none⟩)] W1
        (ExtPost T w W l b sz Z J Jx (pre ++ enumL C r xs) xs W1) := by
  obtain ⟨i0, hi, hz0, hz1, hz2⟩ := info_parts Try.infoI
  have hwW := hW.size
  have HNB : Hid (¬ (T b ∨ b = l)) := fun h => by
    rcases h with h | h
    · have := hT b h; omega
    · omega
  intro r
  induction r with
  | zero =>
    intro xs pre W1 hlen hin hk hz hj he ho hpre
    obtain rfl : xs.length = sz := by omega
    have ks := he.s
    have ky := he.y
    rw [show enumL C 0 xs = [xs] from rfl] at hpre ⊢
    obtain ⟨fn, tmps, assign, body, hy, hR⟩ := hY pre xs W1 hj hz hpre ho.row
    have HR := Lib.hid hR
    have HO := Lib.hid ho
    have HP := Lib.hid hpre
    have qe : ((xs.length : Int) == (xs.length : Int)) = true := by simp
    clear hR ho hpre hY hJ hj he hk hch ec hC hin hW hps hpn hpy hpe hT
    refine (callsIn_wide (n := m)).1 ?_
    refine callsIn_of_wp Try.func119 rfl trivial ?_ rfl
    simp only [Try.ntmps119, List.size_toArray, List.length_cons, List.length_nil, Nat.reduceAdd, Nat.reduceSub, Array.replicate_succ, Array.replicate_zero, List.push_toArray, List.append_toArray, List.nil_append, List.cons_append]
    gi_wp2
    refine ⟨fun h => (by cases h), HR.out.mono ?_⟩
    rintro e W3 (⟨rfl, hJ3, hk3⟩ | ⟨rfl, hJx3, hk3⟩)
    · have HX : Hid (ExtPost T w W l b xs.length Z J Jx (pre ++ [xs]) xs W1 (.returned (.bool true)) W3) := ⟨true, rfl, .inl ⟨rfl, hJ3, HO.out.blkB (hk3.2 _ (HO.out.lt b rfl).2 HNB.out), hk3.mono (fun k h => by rcases h with h | h; exact .inl h; exact .inr (.inl h))⟩⟩
      clear hJ3 hk3 hy ks ky
      gi_wp2
      go_ret
      exact HX.out
    · have HX : Hid (ExtPost T w W l b xs.length Z J Jx (pre ++ [xs]) xs W1 (.returned (.bool false)) W3) := ⟨false, rfl, .inr ⟨rfl, hk3.mono (fun k h => by rcases h with h | h; exact .inl h; exact .inr (.inl h)), _, HP.out, by simp, hJx3⟩⟩
      clear hJx3 hk3 hy ks ky
      gi_wp2
      go_ret
      exact HX.out
  | succ r ih =>
    intro xs pre W1 hlen hin hk hz hj he ho hpre
    have kn := he.n
    have ks := he.s
    have HO := Lib.hid ho
    have hbl : b < W1.heap.size := (ho.lt b rfl).2
    have HE := Lib.hid he
    have HJP := Lib.hid hj
    have HK := Lib.hid hk
    have HIN := Lib.hid hin
    have HPR := Lib.hid hpre
    have IH := Lib.hid ih
    have HJ := Lib.hid hJ
    have HCH := Lib.hid hch
    have HCL := Lib.hid hC
    have HT := Lib.hid hT
    have HYI := Lib.hid hY
    have qe : ((xs.length : Int) == (sz : Int)) = false := by rw [beq_eq_false_iff_ne]; omega
    have HNT : Hid (∀ k, W.heap.size ≤ k → k ≠ b → ¬ (T k ∨ k = l ∨ k = b)) := fun k h1 h2 h => by
      rcases h with h | h | h
      · have := hT k h; omega
      · omega
      · exact h2 h
    have HNP : Hid (¬ (T ps ∨ ps = l ∨ ps = b) ∧ ¬ (T pn ∨ pn = l ∨ pn = b)) := ⟨fun h => by rcases h with h | h | h; exact hps.2 h; omega; omega, fun h => by rcases h with h | h | h; exact hpn.2 h; omega; omega⟩
    clear ho he hj hk hin hpre ih hJ hC hT hY
    go_enter Try.func119, Try.ntmps119
    go_wp2_with fail
    refine (hch W1 _ xs HK.out HO.out.row HIN.out (by omega)).mono ?_
    rintro e W2 ⟨rfl, hb2⟩
    have HB2 := Lib.hid hb2
    clear hch hb2 kn ks
    go_wp2_with fail
    refine (list_any _ _ (HCL.out xs)).mono ?_
    rintro e W3 ⟨n3, a3, c3, rfl, ho3, hb3⟩
    have hls := listM_len (C xs)
    obtain ⟨a3', c3', e3⟩ := ho3.row.slice
    simp only [Value.slice.injEq] at e3
    obtain ⟨rfl, rfl, rfl⟩ := e3
    have HB3 : Hid (Below W1.heap.size W1 W3) := HB2.out.trans (hb3.mono HB2.out.size)
    have hz12 : W1.heap.size ≤ W2.heap.size := HB2.out.size
    have hz3 : W2.heap.size ≤ W3.heap.size := hb3.size
    have HL := Lib.hid ho3
    clear ho3 hb3 HB2
    go_wp2_with fail
    go_loopw [21] (fun qv wx => ∃ q : Nat, q ≤ (listM (C xs)).length ∧ qv = .int .i64 q ∧ J (pre ++ enumTo C r xs q) wx ∧ OwnRow 2 wx W.heap.size (.slice (some ⟨b, 0, none⟩) xs.length sz) xs ∧ KeepsBut (fun k => T k ∨ k = l ∨ k = b) W3 wx) (fun qv _ => (listM (C xs)).length - (intOf qv).toNat)
    case atStart => exact ⟨0, Nat.zero_le _, rfl, by simpa [enumTo] using HJ.out _ _ _ HJP.out (HB3.out.mono hz), HO.out.keep HB3.out, KeepsBut.refl _ _⟩
    case round =>
      rename World => wx
      obtain ⟨q, hq, rfl, hjx, hox, hkx⟩ := hrel
      have HJX := Lib.hid hjx
      have HOX := Lib.hid hox
      have HKX := Lib.hid hkx
      have HK1X : Hid (KeepsBut (fun k => T k ∨ k = l ∨ k = b) W1 wx) := (KeepsBut.below HB3.out).trans hkx
      clear hjx hox hkx
      by_cases hlt : q < (listM (C xs)).length
      · obtain ⟨g, cap, e5, hgB, hgl, hc1, hc2⟩ := HL.out.posB (by omega)
        simp only [Value.slice.injEq, true_and] at e5
        obtain ⟨rfl, rfl⟩ := e5
        have hcq := HKX.out.cell (a := ⟨g, q, none⟩) (HNT.out g (by omega) (by omega)) (HL.out.cells' q hlt)
        obtain ⟨x, hx16, hxb, hxe⟩ := (listM_mem _ _).1 (nth_mem hlt)
        have HSU := Lib.hid (enumTo_succ (C := C) (r := r) hlt)
        rw [← hxe] at hcq HSU
        have HEX : Hid (ExtIn wx ps py pn pe sz l cf lb) := HE.out.but HK1X.out HNP.out.1 (HNT.out py hpy.1 hpy.2) HNP.out.2 (HNT.out pe hpe.1 hpe.2)
        have ke := HEX.out.e
        have hzx : W1.heap.size ≤ wx.heap.size := HK1X.out.1
        have KE : Hid (∀ W', Below wx.heap.size wx W' → W'.cell? ⟨pe, 0, none⟩ = some (.func (.func 119) #[] #[.pointer (some ⟨ps, 0, none⟩), .pointer (some ⟨py, 0, none⟩), .pointer (some ⟨pn, 0, none⟩), .pointer (some ⟨pe, 0, none⟩)])) := fun W' h => cell_keep h ke
        have HSET : Hid (∀ W' : World, W'.setCells b (0 + xs.length * 1) [.int .i64 (x : Int)] = W'.setCell ⟨b, xs.length, none⟩ (.int .i64 (x : Int))) := fun W' => by simp [World.setCells]
        have KE2 : Hid (∀ W', Below wx.heap.size wx W' → (W'.setCells b (0 + xs.length * 1) [.int .i64 (x : Int)]).cell? ⟨pe, 0, none⟩ = some (.func (.func 119) #[] #[.pointer (some ⟨ps, 0, none⟩), .pointer (some ⟨py, 0, none⟩), .pointer (some ⟨pn, 0, none⟩), .pointer (some ⟨pe, 0, none⟩)])) := fun W' h => by
          rw [HSET.out, cell_set_other _ (fun e => hpe.2 (congrArg Addr.block e).symm)]; exact KE.out _ h
        have HSET2 : Hid (∀ W' : World, W'.setCells b xs.length [.int .i64 (x : Int)] = W'.setCell ⟨b, xs.length, none⟩ (.int .i64 (x : Int))) := fun W' => rfl
        have KE3 : Hid (∀ W', Below wx.heap.size wx W' → (W'.setCells b xs.length [.int .i64 (x : Int)]).cell? ⟨pe, 0, none⟩ = some (.func (.func 119) #[] #[.pointer (some ⟨ps, 0, none⟩), .pointer (some ⟨py, 0, none⟩), .pointer (some ⟨pn, 0, none⟩), .pointer (some ⟨pe, 0, none⟩)])) := fun W' h => by
          rw [HSET2.out, cell_set_other _ (fun e => hpe.2 (congrArg Addr.block e).symm)]; exact KE.out _ h
        have HSPR : Hid (∀ W', Below wx.heap.size wx W' → ∀ j, j < ([.int .i64 (x : Int)] : List Value).length → (W'.cell? ⟨b, 0 + xs.length * 1 + j, none⟩).isSome = true ∧ W'.frozen? ⟨b, 0 + xs.length * 1 + j, none⟩ = false) := fun W' h j hj => by
          obtain rfl : j = 0 := by simpa using hj
          have := (HOX.out.keep h).room (by omega) (x := (x : Int)) (by unfold I64; omega)
          simp only [Nat.zero_add, Nat.mul_one, Nat.add_zero]
          exact ⟨this.2.2.1, this.2.2.2.1⟩
        have HST : Hid (∀ W', Below wx.heap.size wx W' → Calls Try.prog 119 #[.slice (some ⟨b, 0, none⟩) (xs.length + 1) sz, .pointer (some ⟨ps, 0, none⟩), .pointer (some ⟨py, 0, none⟩), .pointer (some ⟨pn, 0, none⟩), .pointer (some ⟨pe, 0, none⟩)] (W'.setCells b xs.length [.int .i64 (x : Int)]) fun e W5 =>
            ∃ t, e = .returned (.bool t) ∧ W5.cell? ⟨pe, 0, none⟩ = some (.func (.func 119) #[] #[.pointer (some ⟨ps, 0, none⟩), .pointer (some ⟨py, 0, none⟩), .pointer (some ⟨pn, 0, none⟩), .pointer (some ⟨pe, 0, none⟩)]) ∧
              ((t = true ∧ J (pre ++ enumTo C r xs (q + 1)) W5 ∧ OwnRow 2 W5 W.heap.size (.slice (some ⟨b, 0, none⟩) xs.length sz) xs ∧ KeepsBut (fun k => T k ∨ k = l ∨ k = b) W3 W5) ∨ (t = false ∧ KeepsBut (fun k => k < w.heap.size ∨ k = l ∨ k = b) W1 W5 ∧ ∃ pre', pre' <+: Z ∧ pre' ≠ [] ∧ Jx pre' W5))) := fun W' hb => by
          rw [HSET2.out]
          obtain ⟨r1, r2, r3, r4, r5⟩ := (HOX.out.keep hb).room (by omega) (x := (x : Int)) (by unfold I64; omega)
          have hkb : KeepsBut (fun k => T k ∨ k = l ∨ k = b) wx (W'.setCell ⟨b, xs.length, none⟩ (.int .i64 (x : Int))) := (KeepsBut.below hb).trans (KeepsBut.setCell _ _ _ (Or.inr (Or.inr rfl)))
          have hk1 := HK1X.out.trans hkb
          have hj4 : J (pre ++ enumTo C r xs q) (W'.setCell ⟨b, xs.length, none⟩ (.int .i64 (x : Int))) := HJ.out _ _ _ HJX.out (Below.setCell (B := W.heap.size) (p := ⟨b, xs.length, none⟩) (hb.mono (by omega)) hbW _)
          have he4 := HE.out.but hk1 HNP.out.1 (HNT.out py hpy.1 hpy.2) HNP.out.2 (HNT.out pe hpe.1 hpe.2)
          have hpx : (pre ++ enumTo C r xs q ++ enumL C r (xs ++ [(x : Int)])) <+: Z := by
            rw [List.append_assoc, ← HSU.out]
            exact List.IsPrefix.trans ((List.prefix_append_right_inj _).2 enumTo_prefix) HPR.out
          have := IH.out (xs ++ [(x : Int)]) (pre ++ enumTo C r xs q) _ (by simp; omega) (HIN.out.snoc (by omega) (by omega)) (keeps_less HK.out hk1 hl1 (by omega)) (Nat.le_trans hz hk1.1) hj4 he4 (by simpa using r1) hpx
          simp only [List.length_append, List.length_singleton] at this
          refine this.mono ?_
          rintro e W5 ⟨t, rfl, h⟩
          rcases h with ⟨rfl, h1, h2, h3⟩ | ⟨rfl, h1, h2⟩
          · exact ⟨true, rfl, h3.cell (HNT.out pe hpe.1 hpe.2) he4.e, .inl ⟨rfl, by rw [HSU.out, ← List.append_assoc]; exact h1, h2.less, HKX.out.trans (hkb.trans h3)⟩⟩
          · exact ⟨false, rfl, h1.cell (fun h => by rcases h with h | h | h; (have := hpe.1; simp at h; omega); (have := hpe.1; simp at h; omega); exact hpe.2 h) he4.e, .inr ⟨rfl, (hk1.mono (fun k h => by rcases h with h | h | h; exact .inl (HT.out k h); exact .inr (.inl h); exact .inr (.inr h))).trans h1, h2⟩⟩
        have HYB : Hid (Below wx.heap.size wx (wx.alloc (.cells #[.int .i64 (x : Int)] 2)).drew) := ((Below.refl _ _).alloc (Nat.le_refl _) _).drew
        clear hxb hxe HEX
        go_wp2_with fail
        go_cut [31] (fun tv W5 => ∃ t, tv = .bool (!t) ∧ ((t = true ∧ J (pre ++ enumTo C r xs (q + 1)) W5 ∧ OwnRow 2 W5 W.heap.size (.slice (some ⟨b, 0, none⟩) xs.length sz) xs ∧ KeepsBut (fun k => T k ∨ k = l ∨ k = b) W3 W5) ∨ (t = false ∧ KeepsBut (fun k => k < w.heap.size ∨ k = l ∨ k = b) W1 W5 ∧ ∃ pre', pre' <+: Z ∧ pre' ≠ [] ∧ Jx pre' W5)))
        case first =>
          go_region_held3 (fun wy => wy.cell? ⟨pe, 0, none⟩ = some (.func (.func 119) #[] #[.pointer (some ⟨ps, 0, none⟩), .pointer (some ⟨py, 0, none⟩), .pointer (some ⟨pn, 0, none⟩), .pointer (some ⟨pe, 0, none⟩)])) (first | exact ke | with_reducible exact KE.out _ (Below.refl _ _).drew | with_reducible exact KE.out _ HYB.out | with_reducible exact KE2.out _ HYB.out | with_reducible exact KE3.out _ HYB.out | exact ke5)
            (first
              | (refine step_append_room (by rfl) (.tmp 26) (.tmp 28) 35 (by rfl) 2 i0 1 Try.underlying35 hi hz1 b 0 xs.length sz (by rfl) ⟨wx.heap.size, 0, none⟩ 1 1 [.int .i64 (x : Int)] (by rfl) (by rfl) (lit_at _ _ _) (one_cell _) (by omega) (HSPR.out _ HYB.out) ?_)
              | (go_at_call 119; refine (HST.out _ HYB.out).mono ?_; rintro e W5 ⟨t, rfl, ke5, h5⟩; have H5 := Lib.hid h5; clear h5))
          all_goals (
            go_wp2_with fail
            go_meet
            exact ⟨_, rfl, H5.out⟩)
        case rest =>
          rename World => W5
          obtain ⟨t, rfl, h⟩ := hcut
          have H5 := Lib.hid h
          clear h ke hcq
          cases t with
          | true =>
            have HR : Hid (J (pre ++ enumTo C r xs (q + 1)) W5 ∧ OwnRow 2 W5 W.heap.size (.slice (some ⟨b, 0, none⟩) xs.length sz) xs ∧ KeepsBut (fun k => T k ∨ k = l ∨ k = b) W3 W5) := by
              rcases H5.out with ⟨_, h⟩ | ⟨h, _⟩
              · exact h
              · cases h
            clear H5
            simp only [Bool.not_true]
            go_wp2
            go_roundw
            case rel => exact ⟨q + 1, by omega, by go_num, HR.out⟩
            case measure => simp [intOf]; omega
          | false =>
            have HX : Hid (ExtPost T w W l b sz Z J Jx (pre ++ enumL C (r + 1) xs) xs W1 (.returned (.bool false)) W5) := by
              rcases H5.out with ⟨h, _⟩ | ⟨_, h⟩
              · cases h
              · exact ⟨false, rfl, .inr ⟨rfl, h⟩⟩
            clear H5
            simp only [Bool.not_false]
            go_wp2
            go_ret
            exact HX.out
      · obtain rfl : q = (listM (C xs)).length := by omega
        have HX : Hid (ExtPost T w W l b sz Z J Jx (pre ++ enumL C (r + 1) xs) xs W1 (.returned (.bool true)) wx) := ⟨true, rfl, .inl ⟨rfl, by have := HJX.out; rwa [enumTo_all] at this, HOX.out, HK1X.out⟩⟩
        go_wp2
        go_ret
        exact HX.out

end Go.Proofs.Ytojbaepcflkgeaa
