/- The texts W2, W4, X1, joined. -/
import Derived.Test.YtohjfcfcopbmoaaGreatDoorW1
import Derived.Test.YtohjfcfcopbmoaaGreatDoorQM1
import Derived.Test.YtohjfcfcopbmoaaGreatDoorQF1
import Derived.Deep.AppendLies
import Derived.Test.YtohjfcfcopbmoaaGreatDoorQV1
import Derived.Deep.RegionHeld3
import Derived.Test.YtohjfcfcopbmoaaGreatDoorQBase
import Derived.RangeFuncNested
import Derived.RangeFuncBound
import Derived.RangeFuncCalls
import Derived.RangeFuncLeaves

/- Walks: the model's distances. -/
namespace Go.Proofs.YtohjfcfcopbmoaaGreatDoor
open Go.RowKit

theorem OwnRow.far' {T : TypeId} {w w' : World} {B : Nat} {v : Value} {xs : List Int} {r : Option Nat} (h : OwnRow T w B v xs) (hg : w.grownBy w' r) (hne : ∀ k, v.ownBlock = some k → some k ≠ r) : OwnRow T w' B v xs := by
  obtain ⟨h1, h2, h3⟩ := h
  refine ⟨h1, h2, ?_⟩
  rcases h3 with h3 | ⟨g, cap, cur, e, hgB, hh, rest⟩
  · exact Or.inl h3
  · refine Or.inr ⟨g, cap, cur, e, hgB, ?_, rest⟩
    rw [hg.block g (Array.getElem?_eq_some_iff.1 hh).1 (hne g (by rw [e]; rfl))]
    exact hh

theorem OwnRow.laidAt' {T : TypeId} {w : World} {B g cap n : Nat} {ys : List Int} (h : OwnRow T w B (.slice (some ⟨g, 0, none⟩) n cap) ys) (hn : ys.length = n) {k : Nat} (hk : k < n) {z : Int} (hz : I64 z) :
    OwnRow T (w.setCell ⟨g, k, none⟩ (.int .i64 z)) B (.slice (some ⟨g, 0, none⟩) n cap) (ys.set k z) ∧ w.cell? ⟨g, k, none⟩ = some (.int .i64 (nth ys k)) ∧ w.frozen? ⟨g, k, none⟩ = false ∧ B ≤ g := by
  subst hn
  obtain ⟨h1, h2, h3⟩ := h
  rcases h3 with ⟨e, _⟩ | ⟨g', cap', cur, e, hgB, hh, l1, l2, hs, hc⟩
  · simp at e
  · simp only [Value.slice.injEq, Option.some.injEq, Addr.mk.injEq, and_true, true_and] at e
    obtain ⟨rfl, rfl⟩ := e
    have hlen : (ys.set k z).length = ys.length := List.length_set
    refine ⟨⟨fun x hx => ?_, by rw [hlen]; exact h2, Or.inr ⟨g, cap, cur.set! k (.int .i64 z), by rw [hlen], hgB, heap_setCell_same w g k _ _ _ hh, by rw [hlen]; exact l1, l2, by simp [hs], fun i hi => ?_⟩⟩, by rw [cell_of_row w g k cur T _ hh]; exact hc k hk, ?_, hgB⟩
    · rcases List.mem_or_eq_of_mem_set hx with h | rfl
      · exact h1 x h
      · exact hz
    · have hi' : i < ys.length := by rw [hlen] at hi; exact hi
      rw [nth_eq hi, List.getElem_set]
      by_cases e : k = i
      · subst e; have hks : k < cur.size := by omega
        simp [hks]
      · rw [if_neg e, ← nth_eq hi', ← hc i hi']; simp [e]
    · exact frozen_of_row w g k cur T hh
theorem OwnRow.cells' {T : TypeId} {w : World} {B b n cl : Nat} {xs : List Int} (h : OwnRow T w B (.slice (some ⟨b, 0, none⟩) n cl) xs) : ∀ i, i < xs.length → w.cell? ⟨b, i, none⟩ = some (.int .i64 (nth xs i)) := by
  obtain ⟨h1, h2, h3⟩ := h
  rcases h3 with ⟨e, _⟩ | ⟨g', cap', cur, e, hgB, hh, l1, l2, hs, hc⟩
  · simp at e
  · simp only [Value.slice.injEq, Option.some.injEq, Addr.mk.injEq, and_true] at e
    obtain ⟨rfl, _, _⟩ := e
    intro i hi
    rw [cell_of_row w b i cur T _ hh]
    exact hc i hi
/-- A row of one's own that is not empty lies in a block. -/
theorem OwnRow.posB {T : TypeId} {w : World} {B : Nat} {v : Value} {xs : List Int} (h : OwnRow T w B v xs) (h0 : 0 < xs.length) : ∃ g cap, v = .slice (some ⟨g, 0, none⟩) xs.length cap ∧ B ≤ g ∧ g < w.heap.size ∧ xs.length ≤ cap ∧ cap ≤ maxLen := by
  rcases h.2.2 with ⟨_, e⟩ | ⟨g, cap, cur, e, hgB, hh, l1, l2, hs, hc⟩
  · rw [e] at h0; simp at h0
  · exact ⟨g, cap, e, hgB, (Array.getElem?_eq_some_iff.1 hh).1, l1, l2⟩

/-- Who is near whom. -/
def nearB (L : List (List Int)) (a b : Nat) : Bool := hasB (nthR L a) (b : Int)
/-- Who is in a list. -/
def inS (xs : List Int) (u : Nat) : Bool := hasB xs (u : Int)

/-- The two rows of a search: the distances so far, and who was met. -/
structure Seek (W : World) (g cap n : Nat) (out met : List Int) (vm : Value) (wr : World) : Prop where
  out : OwnRow 2 wr W.heap.size (.slice (some ⟨g, 0, none⟩) n cap) out
  met : OwnRow 2 wr W.heap.size vm met
  ne : ∀ k, vm.ownBlock = some k → k ≠ g
  bel : Below W.heap.size W wr
theorem Seek.later {W : World} {g cap n : Nat} {out met : List Int} {vm : Value} {wr w' : World} (h : Seek W g cap n out met vm wr) (hb : Below wr.heap.size wr w') : Seek W g cap n out met vm w' :=
  ⟨h.out.keep hb, h.met.keep hb, h.ne, h.bel.trans (hb.mono h.bel.size)⟩
theorem Seek.put {W : World} {g cap n : Nat} {out met : List Int} {vm : Value} {wr : World} (h : Seek W g cap n out met vm wr) (hn : out.length = n) {k : Nat} (hk : k < n) {z : Int} (hz : I64 z) : Seek W g cap n (out.set k z) met vm (wr.setCell ⟨g, k, none⟩ (.int .i64 z)) :=
  ⟨(h.out.laidAt' hn hk hz).1, h.met.setCell (fun e => h.ne _ e rfl) _, h.ne, h.bel.setCell (p := ⟨g, k, none⟩) (h.out.laidAt' hn hk hz).2.2.2 _⟩
theorem Seek.more {W : World} {g cap n : Nat} {out met : List Int} {vm : Value} {wr : World} (h : Seek W g cap n out met vm wr) {o : Obj} {v' : Value} {w' : World} {x : Int} (hx : I64 x) (hm : met.length + 1 ≤ maxLen)
    (hown : w'.ownsRow W.heap.size 2 1 v' (met.length + 1) (met.map (Value.int .i64) ++ [.int .i64 x])) (hgrow : (wr.alloc o).grownBy w' vm.ownBlock) (hv' : ∀ k, v'.ownBlock = some k → vm.ownBlock = some k ∨ wr.heap.size ≤ k) :
    Seek W g cap n out (met ++ [x]) v' w' := by
  have hbA : Below wr.heap.size wr (wr.alloc o) := (Below.refl _ _).alloc (Nat.le_refl _) _
  have hlt := (h.out.lt g rfl).2
  refine ⟨(h.out.keep hbA).far' hgrow ?_, OwnRow.of_ownsRow (n := met.length + 1) (by simpa using hown) (by simpa using hm) (fun y hy => ?_), fun k hk => ?_, ?_⟩
  · intro k hk e
    simp [Value.ownBlock] at hk
    subst hk
    exact h.ne _ e.symm rfl
  · rcases List.mem_append.1 hy with hy | hy
    · exact h.met.1 y hy
    · simp at hy; subst hy; exact hx
  · rcases hv' k hk with h1 | h1
    · exact h.ne k h1
    · intro e; omega
  · exact ((h.bel.trans (hbA.mono h.bel.size))).grown hgrow (by simp; have := h.bel.size; omega) (fun j hj => (h.met.lt j hj).1)

end Go.Proofs.YtohjfcfcopbmoaaGreatDoor

/- Walks: DistancesFrom, of the model. -/
namespace Go.Proofs.YtohjfcfcopbmoaaGreatDoor
open Go.RowKit

/-- All vertices. -/
def allS (n : Nat) (u : Nat) : Bool := inS (allL n) u
theorem allS_iff (n u : Nat) : allS n u = true ↔ u < n := by
  show hasB _ _ = true ↔ _
  rw [hasB_iff]
  constructor
  · rintro ⟨i, hi, e⟩
    rw [allL_len] at hi
    have := nth_mem (xs := allL n) (i := i) (by rw [allL_len]; exact hi)
    rw [allL_mem] at this
    obtain ⟨k, hk, e2⟩ := this
    omega
  · intro h
    obtain ⟨i, hi, e⟩ := List.getElem_of_mem ((allL_mem n (u : Int)).2 ⟨u, h, rfl⟩)
    exact ⟨i, hi, by rw [nth_eq hi]; exact e⟩
end Go.Proofs.YtohjfcfcopbmoaaGreatDoor

/- A law of loops over an iterator that keeps cells of its own: the caller's invariant speaks of what lay ahead of the loop; the body turns named blocks alone. No statement of the program. -/
namespace Go.Proofs.YtohjfcfcopbmoaaGreatDoor
open Go.RowKit

/-- All blocks but those of T are as they were. -/
def KeepsBut (T : Nat → Prop) (W W' : World) : Prop := W.heap.size ≤ W'.heap.size ∧ ∀ k, k < W.heap.size → ¬ T k → W'.heap[k]? = W.heap[k]?
theorem KeepsBut.refl (T : Nat → Prop) (W : World) : KeepsBut T W W := ⟨Nat.le_refl _, fun _ _ _ => rfl⟩
theorem KeepsBut.trans {T : Nat → Prop} {A B C : World} (h : KeepsBut T A B) (k : KeepsBut T B C) : KeepsBut T A C :=
  ⟨Nat.le_trans h.1 k.1, fun j hj hT => (k.2 j (Nat.lt_of_lt_of_le hj h.1) hT).trans (h.2 j hj hT)⟩
theorem KeepsBut.mono {T T' : Nat → Prop} {A B : World} (h : KeepsBut T A B) (hT : ∀ k, T k → T' k) : KeepsBut T' A B := ⟨h.1, fun k hk hn => h.2 k hk (fun ht => hn (hT k ht))⟩
theorem KeepsBut.putObj {T : Nat → Prop} (W : World) (l : Nat) (o : Obj) (hl : T l) : KeepsBut T W (W.putObj l o) :=
  ⟨by simp, fun k _ hn => World.putObj_heap_other (fun e => hn (by rw [e]; exact hl))⟩
theorem KeepsBut.setCell {T : Nat → Prop} (W : World) (a : Addr) (v : Value) (ha : T a.block) : KeepsBut T W (W.setCell a v) :=
  ⟨by simp, fun k _ hn => Below.heap_setCell W a v k (fun e => hn (by rw [e]; exact ha))⟩
theorem KeepsBut.below {T : Nat → Prop} {W W' : World} (h : Below W.heap.size W W') : KeepsBut T W W' := ⟨h.size, fun k hk _ => h.block k hk⟩
theorem KeepsBut.cell {T : Nat → Prop} {W W' : World} (h : KeepsBut T W W') {a : Addr} {v : Value} (ha : ¬ T a.block) (hc : W.cell? a = some v) : W'.cell? a = some v :=
  (World.cell?_of_block (h.2 _ (block_lt_of_cell hc) ha)).trans hc

/-- What an iterator promises that keeps cells of its own, made since it began. -/
def SeqVis {α : Type} (F : Fence) (n : Nat) (P : Program) (g : Nat) (lb : Array Value) (encs : α → Array Value) (T : Nat → Prop) (Px : List α → α → Prop) (S Sp : List α → Prop) (w : World) : Prop :=
  ∀ (l : Nat) (J Jx : List α → World → Prop) (W : World), Below w.heap.size w W → w.heap.size ≤ l → l < W.heap.size →
    (∀ s A B, J s A → Below W.heap.size A B → J s B) →
    (∀ pre x W1, J pre W1 → W.heap.size ≤ W1.heap.size → Px pre x → YieldAt F (n - 1) P l (encs x) W1 fun e W' =>
      (e = .returned (.bool true) ∧ J (pre ++ [x]) W' ∧ KeepsBut (fun k => T k ∨ k = l) W1 W') ∨ (e = .returned (.bool false) ∧ Jx (pre ++ [x]) W' ∧ W1.heap.size ≤ W'.heap.size)) →
    J [] W →
    CallsIn F n P g (#[.func (.yield l) #[] #[]] ++ lb) W fun e W' => (∃ v, e = .returned v) ∧ ((∃ xs, S xs ∧ J xs W') ∨ (∃ pre, Sp pre ∧ Jx pre W'))

/-- How the body of a round may be left. -/
def visPost {α : Type} (B : Nat) (T : Nat → Prop) (I : List α → World → Prop) (Ix : Code → List α → World → Prop) (xs : List α) (W : World) : Exit → Act → World → Prop
  | .normal, _, W' => KeepsBut T W W' ∧ I xs W'
  | .ret, _, W' => KeepsBut (fun k => k < B) W W' ∧ Ix .ret xs W'
  | .exit id, _, W' => KeepsBut (fun k => k < B) W W' ∧ Ix (.exit id) xs W'
  | .goto t, _, W' => KeepsBut (fun k => k < B) W W' ∧ Ix (.goto t) xs W'
  | .panic _, _, _ => False
  | .outgrown, _, _ => False

variable {F : Fence} {n : Nat} {P : Program}

theorem below_put {B : Nat} (W : World) (l : Nat) (o : Obj) (h : B ≤ l) (hl : l < W.heap.size) : Below B W (W.putObj l o) :=
  (Below.refl B W).grown (grownBy_putObj' W l o) (by omega) (fun k e => by cases e; exact h)

theorem wpIn_rangeFunc_vis {α : Type} {g : Operand} {ps : Array Tmp} {assign body : Code} {Q : Exit → Act → World → Prop} {a : Act} {w : World}
    (hro : F.round = none) (h1 : 1 ≤ n) {gf : Nat} {lb : Array Value} (hg : a.eval g = .func (.func gf) #[] lb) (hFg : F.fn gf) (eg : ∀ args w, (callFunc gf args).run P w = .ok (.enter gf args) w)
    {encs : α → Array Value} {T : Nat → Prop} {Px : List α → α → Prop} {S Sp : List α → Prop} (hseq : SeqVis F (n - 1) P gf lb encs T Px S Sp w)
    (hT : ∀ k, T k → k < w.heap.size) (hps : ∀ x, (encs x).size = ps.size)
    (I : List α → World → Prop) (Ix : Code → List α → World → Prop) (hI : ∀ s A B, I s A → Below w.heap.size A B → I s B) (hIx : ∀ c s A r o, Ix c s A → A.heap[w.heap.size + 1]? = some (.loop r) → Ix c s (A.putObj (w.heap.size + 1) o)) (h0 : I [] w) (a₁ : α → Act)
    (hassign : ∀ (l : Nat) (x : α) (W : World) (K : Act → World → Prop), K (a₁ x) W →
      assign.wpIn (F.inRound l) (n - 1 - 1) P (Exit.then K (fun _ _ _ => False)) { tmps := (ps.zip (encs x)).foldl (fun t (p, v) => t.setIfInBounds p v) a.tmps, defers := [] } W)
    (hbody : ∀ (l : Nat) (pre : List α) (x : α) (W : World), I pre W → w.heap.size ≤ W.heap.size → Px pre x → body.wpIn (F.inRound l) (n - 1 - 1) P (visPost w.heap.size T I Ix (pre ++ [x]) W) (a₁ x) W)
    (hdone : ∀ (D : Nat) (xs : List α) (W : World), S xs → I xs W → w.heap.size ≤ D → W.heap[D]? = some (.deferred (some [])) → Q .normal { a with defers := { target := .collected D, args := #[] } :: a.defers } W)
    (hstop : ∀ (D : Nat) (c : Code) (pre : List α) (W : World), Sp pre → Ix c pre W → w.heap.size ≤ D → W.heap[D]? = some (.deferred (some [])) → c.wpIn F n P Q { a with defers := { target := .collected D, args := #[] } :: a.defers } W) :
    (Code.rangeFunc g ps assign body).wpIn F n P Q a w := by
  refine wpIn_rangeFunc ?_
  intro fn hfn
  rw [hro]
  obtain ⟨rec, hrec⟩ : ∃ rec : LoopState → Option Code → Loop, rec = fun st pe => { state := st, pending := pe, fn, tmps := a.tmps, params := ps, assign, body, defers := w.heap.size } := ⟨_, rfl⟩
  obtain ⟨W1, hW1⟩ : ∃ W1, (w.alloc (.deferred (some []))).alloc (.loop (rec .ready none)) = W1 := ⟨_, rfl⟩
  have hL1 : W1.heap[w.heap.size + 1]? = some (.loop (rec .ready none)) := by
    rw [← hW1]; have := World.alloc_heap_new (w.alloc (.deferred (some []))) (.loop (rec .ready none)); rwa [World.size_alloc] at this
  have hK1 : W1.heap[w.heap.size]? = some (.deferred (some [])) := by
    rw [← hW1]; exact (Below.heap_alloc _ _ _ (by simp)).trans (World.alloc_heap_new w _)
  have hb1 : Below w.heap.size w W1 := by
    rw [← hW1]; exact ((Below.refl _ w).alloc (Nat.le_refl _) _).alloc (by simp) _
  have hI1 : I [] W1 := hI _ _ _ h0 hb1
  have hsz1 : W1.heap.size = w.heap.size + 2 := by rw [← hW1]; simp
  refine ⟨w.heap.size + 1, [{ target := .collected w.heap.size, args := #[] }], W1, { target := .fn (.func gf) lb, args := #[.func (.yield (w.heap.size + 1)) #[] #[]] }, W1, gf,
    #[.func (.yield (w.heap.size + 1)) #[] #[]] ++ lb, W1, ?_, ?_, ?_, ?_, fun _ => h1, ?_⟩
  · rw [← hW1, hrec]; exact run_enterLoop_outer _ _ _ _ _
  · simp only [resolve, hg]
    simp [go_sem]
  · intro f' hf'; simp [Target.leads] at hf'; subst hf'; exact hFg
  · simp [invoke, go_sem, eg]
  · refine (hseq (w.heap.size + 1)
      (fun pre W => I pre W ∧ W.heap[w.heap.size + 1]? = some (.loop (rec .ready none)) ∧ W.heap[w.heap.size]? = some (.deferred (some [])))
      (fun pre W => ∃ c, Ix c pre W ∧ W.heap[w.heap.size + 1]? = some (.loop (rec .done (some c))) ∧ W.heap[w.heap.size]? = some (.deferred (some [])))
      W1 hb1 (by omega) (by omega)
      (fun s A B hs hb => ⟨hI s A B hs.1 (hb.mono (by omega)), (hb.block _ (by omega)).trans hs.2.1, (hb.block _ (by omega)).trans hs.2.2⟩)
      ?_ ⟨hI1, hL1, hK1⟩).mono ?_
    · -- one round
      rintro pre x W ⟨hi, hl, hk⟩ hsz hpx
      have hlt : w.heap.size + 1 < W.heap.size := (Array.getElem?_eq_some_iff.1 hl).1
      have hy := run_yield (P := P) (args := encs x) hl (by rw [hrec]; exact hps x)
      rw [hrec] at hy
      refine ⟨fn, _, assign, body, hy, roundIn_of_wpIn hfn (hassign _ x W _ ⟨_, run_beginRound hl (by rw [hrec]), ?_⟩)⟩
      have hl2 : (W.putObj (w.heap.size + 1) (.loop { rec .ready none with state := .busy })).heap[w.heap.size + 1]? = some (.loop { rec .ready none with state := .busy }) := World.putObj_heap_same hlt
      have hk2 : (W.putObj (w.heap.size + 1) (.loop { rec .ready none with state := .busy })).heap[w.heap.size]? = some (.deferred (some [])) := (World.putObj_heap_other (by omega)).trans hk
      have hsz2 : (W.putObj (w.heap.size + 1) (.loop { rec .ready none with state := .busy })).heap.size = W.heap.size := by simp
      refine wpIn_mono (hbody _ pre x _ (hI _ _ _ hi (below_put W _ _ (by omega) hlt)) (by rw [hsz2]; omega) hpx) ?_
      have fin : ∀ (jump : Option Code) (W3 : World), KeepsBut (fun k => k < w.heap.size) (W.putObj (w.heap.size + 1) (.loop { rec .ready none with state := .busy })) W3 →
          (Instr.endRound (w.heap.size + 1) jump).run P W3 = .ok (.bool jump.isNone) (W3.putObj (w.heap.size + 1) (.loop (rec (if jump.isNone then .ready else .done) jump))) ∧
          W3.heap[w.heap.size + 1]? = some (.loop { rec .ready none with state := .busy }) ∧
          (W3.putObj (w.heap.size + 1) (.loop (rec (if jump.isNone then .ready else .done) jump))).heap[w.heap.size + 1]? = some (.loop (rec (if jump.isNone then .ready else .done) jump)) ∧
          (W3.putObj (w.heap.size + 1) (.loop (rec (if jump.isNone then .ready else .done) jump))).heap[w.heap.size]? = some (.deferred (some [])) := fun jump W3 hk3 => by
        have hl3 := (hk3.2 _ (by rw [hsz2]; omega) (by omega)).trans hl2
        have := run_endRound (P := P) jump hl3
        rw [hrec] at this ⊢
        exact ⟨this, by rw [hrec] at hl3; exact hl3, World.putObj_heap_same (Array.getElem?_eq_some_iff.1 hl3).1, (World.putObj_heap_other (by omega)).trans ((hk3.2 _ (by rw [hsz2]; omega) (by omega)).trans hk2)⟩
      rintro e a3 W3 hp
      have close : ∀ {I' : World → Prop} (jump : Option Code), (∀ A B, I' A → Below w.heap.size A B → I' B) → I' W3 → W3.heap[w.heap.size + 1]? = some (.loop { rec .ready none with state := .busy }) → I' (W3.putObj (w.heap.size + 1) (.loop (rec (if jump.isNone then .ready else .done) jump))) :=
        fun jump hI' hi' hl' => hI' _ _ hi' (below_put W3 _ _ (by omega) (Array.getElem?_eq_some_iff.1 hl').1)
      cases e with
      | normal =>
        obtain ⟨hk3, hi3⟩ := hp
        obtain ⟨hr, hl3, hl4, hk4⟩ := fin none W3 (hk3.mono hT)
        exact ⟨_, _, hr, .inl ⟨rfl, ⟨close none (hI _) hi3 hl3, hl4, hk4⟩, ((KeepsBut.putObj W _ _ (Or.inr rfl)).trans (hk3.mono (fun k hk => Or.inl hk))).trans (KeepsBut.putObj W3 _ _ (Or.inr rfl))⟩⟩
      | ret =>
        obtain ⟨hk3, hi3⟩ := hp
        obtain ⟨hr, hl3, hl4, hk4⟩ := fin (some .ret) W3 hk3
        exact ⟨_, _, hr, .inr ⟨rfl, ⟨.ret, hIx _ _ _ _ _ hi3 hl3, hl4, hk4⟩, by have := hk3.1; simp at this ⊢; omega⟩⟩
      | exit id =>
        obtain ⟨hk3, hi3⟩ := hp
        obtain ⟨hr, hl3, hl4, hk4⟩ := fin (some (.exit id)) W3 hk3
        exact ⟨_, _, hr, .inr ⟨rfl, ⟨.exit id, hIx _ _ _ _ _ hi3 hl3, hl4, hk4⟩, by have := hk3.1; simp at this ⊢; omega⟩⟩
      | goto t =>
        obtain ⟨hk3, hi3⟩ := hp
        obtain ⟨hr, hl3, hl4, hk4⟩ := fin (some (.goto t)) W3 hk3
        exact ⟨_, _, hr, .inr ⟨rfl, ⟨.goto t, hIx _ _ _ _ _ hi3 hl3, hl4, hk4⟩, by have := hk3.1; simp at this ⊢; omega⟩⟩
      | panic ch => exact hp.elim
      | outgrown => exact hp.elim
    · -- behind the iterator
      rintro e W2 ⟨⟨v, rfl⟩, (⟨xs, hS, hi, hl, hk⟩ | ⟨pre, hSp, c, hi, hl, hk⟩)⟩
      · exact ⟨none, _, by have := run_endLoop (P := P) hl (by rw [hrec]; simp); rw [hrec] at this; exact this, hdone _ xs _ hS (hI _ _ _ hi (below_put W2 _ _ (by omega) (Array.getElem?_eq_some_iff.1 hl).1)) (Nat.le_refl _) ((World.putObj_heap_other (by omega)).trans hk)⟩
      · exact ⟨some c, _, by have := run_endLoop (P := P) hl (by rw [hrec]; simp); rw [hrec] at this; exact this, hstop _ c pre _ hSp (hIx _ _ _ _ _ hi hl) (Nat.le_refl _) ((World.putObj_heap_other (by omega)).trans hk)⟩

end Go.Proofs.YtohjfcfcopbmoaaGreatDoor
