/- The texts CL5, CL6, joined. -/
import Derived.Test.YtmfolclpddoplaaX1
import Derived.Test.YtmfolclpddoplaaCL4
import Derived.Test.YtmfolclpddoplaaCQ1

/- A law of loops over an iterator that turns none but numbers of one type (its own boxes), with a body that turns none but rows of rows. No statement of the program. -/
namespace Go.Proofs.Ytmfolclpddoplaa
open Go.RowKit

/-- What the iterator may do: the boxes of its masks, laid at lo or above, may turn, and the block c; new blocks may come. -/
structure IterC (lo c : Nat) (A B : World) : Prop where
  os : B.os = A.os
  tape : B.tape = A.tape
  output : B.output = A.output
  size : A.heap.size ≤ B.heap.size
  other : ∀ (k : Nat) (o : Obj), k ≠ c → A.heap[k]? = some o → (lo ≤ k → ∀ cs fr, o ≠ .cells cs 62 fr) → B.heap[k]? = some o
theorem IterC.below {lo c : Nat} {A B : World} (h : Below A.heap.size A B) : IterC lo c A B :=
  ⟨h.os, h.tape, h.output, h.size, fun k o _ ho _ => by rw [h.block k (Array.getElem?_eq_some_iff.1 ho).1]; exact ho⟩
theorem IterC.put (lo c : Nat) (A : World) (o : Obj) : IterC lo c A (A.putObj c o) := ⟨rfl, rfl, rfl, by simp, fun k o' hk ho _ => (World.putObj_heap_other hk).trans ho⟩
theorem IterC.set {lo c b i : Nat} {A : World} {v : Value} {cs : Array Value} {fr : Nat × Nat} (h : A.heap[b]? = some (.cells cs 62 fr)) (hb : lo ≤ b) : IterC lo c A (A.setCell ⟨b, i, none⟩ v) :=
  ⟨rfl, rfl, rfl, by simp, fun k o _ ho ht => by
    by_cases e : k = b
    · subst e; rw [h] at ho; exact absurd (Option.some.inj ho).symm (ht hb cs fr)
    · rw [Below.heap_setCell A ⟨b, i, none⟩ v k e]; exact ho⟩
/-- What the body keeps: all cells but those of rows of rows, and of boxes of such. -/
def KeepsT (A B : World) : Prop := ∀ (k : Nat) (cs : Array Value) (U : TypeId) (fr : Nat × Nat), A.heap[k]? = some (Obj.cells cs U fr) → U ≠ 31 → U ≠ 27 → B.heap[k]? = some (Obj.cells cs U fr)
/-- .. and all that is no cells. -/
def KeepsN (A B : World) : Prop := ∀ (k : Nat) (o : Obj), A.heap[k]? = some o → (∀ cs U fr, o ≠ Obj.cells cs U fr) → B.heap[k]? = some o
theorem KeepsT.refl (A : World) : KeepsT A A := fun _ _ _ _ h _ _ => h
theorem KeepsT.trans {A B C : World} (h : KeepsT A B) (k : KeepsT B C) : KeepsT A C := fun j cs U fr hj h1 h2 => k j cs U fr (h j cs U fr hj h1 h2) h1 h2
theorem KeepsT.below {A B : World} (h : Below A.heap.size A B) : KeepsT A B := fun k cs U fr hk _ _ => by rw [h.block k (Array.getElem?_eq_some_iff.1 hk).1]; exact hk
theorem KeepsT.put {A : World} {l : Nat} {o o' : Obj} (h : A.heap[l]? = some o) (ho : ∀ cs U fr, o ≠ Obj.cells cs U fr) : KeepsT A (A.putObj l o') := fun k cs U fr hk _ _ => by
  by_cases e : k = l
  · subst e; rw [h] at hk; exact absurd (Option.some.inj hk) (ho cs U fr)
  · exact (World.putObj_heap_other e).trans hk
theorem KeepsN.refl (A : World) : KeepsN A A := fun _ _ h _ => h
theorem KeepsN.trans {A B C : World} (h : KeepsN A B) (k : KeepsN B C) : KeepsN A C := fun j o hj h1 => k j o (h j o hj h1) h1
theorem KeepsN.below {A B : World} (h : Below A.heap.size A B) : KeepsN A B := fun k o hk _ => by rw [h.block k (Array.getElem?_eq_some_iff.1 hk).1]; exact hk

/-- What the iterator promises: it hands out Z, one after another, and turns none but its own. -/
def SeqTy (F : Fence) (n : Nat) (P : Program) (g : Nat) (lb : Array Value) (encs : List Int → Array Value) (Z : List (List Int)) (w : World) : Prop :=
  ∀ (l : Nat) (J : List (List Int) → World → Prop) (W : World), Below w.heap.size w W →
    (∀ s A B c, J s A → w.heap.size ≤ c → (∀ o, A.heap[c]? = some o → ∃ cs fr, o = .cells cs 62 fr) → IterC w.heap.size c A B → J s B) →
    (∀ pre x W1, J pre W1 → (pre ++ [x]) <+: Z → YieldAt F (n - 1) P l (encs x) W1 fun e W' => e = .returned (.bool true) ∧ J (pre ++ [x]) W' ∧ KeepsT W1 W') →
    J [] W →
    CallsIn F n P g (#[.func (.yield l) #[] #[]] ++ lb) W fun e W' => (∃ v, e = .returned v) ∧ J Z W'

/-- How the body of a round is left. -/
def tyPost (I : List (List Int) → World → Prop) (xs : List (List Int)) (W : World) : Exit → Act → World → Prop
  | .normal, _, W' => KeepsT W W' ∧ KeepsN W W' ∧ I xs W'
  | _, _, _ => False

variable {F : Fence} {n : Nat} {P : Program}

theorem wpIn_rangeFunc_ty {g : Operand} {ps : Array Tmp} {assign body : Code} {Q : Exit → Act → World → Prop} {a : Act} {w : World}
    (hro : F.round = none) (h1 : 1 ≤ n) {gf : Nat} {lb : Array Value} (hg : a.eval g = .func (.func gf) #[] lb) (hFg : F.fn gf) (eg : ∀ args w, (callFunc gf args).run P w = .ok (.enter gf args) w)
    {encs : List Int → Array Value} {Z : List (List Int)} (hseq : SeqTy F (n - 1) P gf lb encs Z w) (hps : ∀ x, (encs x).size = ps.size)
    (I : List (List Int) → World → Prop) (hI : ∀ s A B c, I s A → w.heap.size ≤ c → (∀ o, A.heap[c]? = some o → (∃ cs fr, o = .cells cs 62 fr) ∨ ∀ cs U fr, o ≠ .cells cs U fr) → IterC w.heap.size c A B → I s B) (h0 : I [] w) (a₁ : List Int → Act)
    (hassign : ∀ (l : Nat) (x : List Int) (W : World) (K : Act → World → Prop), K (a₁ x) W →
      assign.wpIn (F.inRound l) (n - 1 - 1) P (Exit.then K (fun _ _ _ => False)) { tmps := (ps.zip (encs x)).foldl (fun t (p, v) => t.setIfInBounds p v) a.tmps, defers := [] } W)
    (hbody : ∀ (l : Nat) (pre : List (List Int)) (x : List Int) (W : World), I pre W → (pre ++ [x]) <+: Z → body.wpIn (F.inRound l) (n - 1 - 1) P (tyPost I (pre ++ [x]) W) (a₁ x) W)
    (hdone : ∀ (D : Nat) (W : World), I Z W → w.heap.size ≤ D → W.heap[D]? = some (.deferred (some [])) → Q .normal { a with defers := { target := .collected D, args := #[] } :: a.defers } W) :
    (Code.rangeFunc g ps assign body).wpIn F n P Q a w := by
  refine wpIn_rangeFunc ?_
  intro fn hfn
  rw [hro]
  obtain ⟨rec, hrec⟩ : ∃ rec : LoopState → Option Code → Loop, rec = fun st pe => { state := st, pending := pe, fn, tmps := a.tmps, params := ps, assign, body, defers := w.heap.size } := ⟨_, rfl⟩
  obtain ⟨W1, hW1⟩ : ∃ W1, (w.alloc (.deferred (some []))).alloc (.loop (rec .ready none)) = W1 := ⟨_, rfl⟩
  have hL1 : W1.heap[w.heap.size + 1]? = some (.loop (rec .ready none)) := by
    rw [← hW1]; have := World.alloc_heap_new (w.alloc (.deferred (some []))) (.loop (rec .ready none)); rwa [World.size_alloc] at this
  have hK1 : W1.heap[w.heap.size]? = some (.deferred (some [])) := by
    rw [← hW1]; exact (Below.heap_alloc _ _ _ (by simp)).trans (World.alloc_heap_new w _)
  have hb1 : Below w.heap.size w W1 := by
    rw [← hW1]; exact ((Below.refl _ w).alloc (Nat.le_refl _) _).alloc (by simp) _
  have hI1 : I [] W1 := hI _ _ _ w.heap.size h0 (Nat.le_refl _) (fun o ho => by have := (Array.getElem?_eq_some_iff.1 ho).1; omega) (IterC.below hb1)
  have hsz1 : W1.heap.size = w.heap.size + 2 := by rw [← hW1]; simp
  have hnl : ∀ (r : Loop) cs U fr, Obj.loop r ≠ Obj.cells cs U fr := fun _ _ _ _ e => by cases e
  have hnd : ∀ d cs U fr, Obj.deferred d ≠ Obj.cells cs U fr := fun _ _ _ _ e => by cases e
  refine ⟨w.heap.size + 1, [{ target := .collected w.heap.size, args := #[] }], W1, { target := .fn (.func gf) lb, args := #[.func (.yield (w.heap.size + 1)) #[] #[]] }, W1, gf,
    #[.func (.yield (w.heap.size + 1)) #[] #[]] ++ lb, W1, ?_, ?_, ?_, ?_, fun _ => h1, ?_⟩
  · rw [← hW1, hrec]; exact run_enterLoop_outer _ _ _ _ _
  · simp only [resolve, hg]
    simp [go_sem]
  · intro f' hf'; simp [Target.leads] at hf'; subst hf'; exact hFg
  · simp [invoke, go_sem, eg]
  · refine (hseq (w.heap.size + 1)
      (fun pre W => I pre W ∧ W.heap[w.heap.size + 1]? = some (.loop (rec .ready none)) ∧ W.heap[w.heap.size]? = some (.deferred (some [])))
      W1 hb1
      (fun s A B c hs hlc hc hb => ⟨hI s A B c hs.1 hlc (fun o ho => Or.inl (hc o ho)) hb,
        hb.other _ _ (fun e => by obtain ⟨cs, fr, e2⟩ := hc _ (e ▸ hs.2.1); exact hnl _ _ _ _ e2) hs.2.1 (fun _ cs fr => hnl _ _ _ _),
        hb.other _ _ (fun e => by obtain ⟨cs, fr, e2⟩ := hc _ (e ▸ hs.2.2); exact hnd _ _ _ _ e2) hs.2.2 (fun _ cs fr => hnd _ _ _ _)⟩)
      ?_ ⟨hI1, hL1, hK1⟩).mono ?_
    · -- one round
      rintro pre x W ⟨hi, hl, hk⟩ hpx
      have hlt : w.heap.size + 1 < W.heap.size := (Array.getElem?_eq_some_iff.1 hl).1
      have hy := run_yield (P := P) (args := encs x) hl (by rw [hrec]; exact hps x)
      rw [hrec] at hy
      refine ⟨fn, _, assign, body, hy, roundIn_of_wpIn hfn (hassign _ x W _ ⟨_, run_beginRound hl (by rw [hrec]), ?_⟩)⟩
      have hl2 : (W.putObj (w.heap.size + 1) (.loop { rec .ready none with state := .busy })).heap[w.heap.size + 1]? = some (.loop { rec .ready none with state := .busy }) := World.putObj_heap_same hlt
      have hk2 : (W.putObj (w.heap.size + 1) (.loop { rec .ready none with state := .busy })).heap[w.heap.size]? = some (.deferred (some [])) := (World.putObj_heap_other (by omega)).trans hk
      have hrt : ∀ (o : Obj), (∃ r, o = .loop r) → (∃ cs fr, o = Obj.cells cs 62 fr) ∨ ∀ cs U fr, o ≠ Obj.cells cs U fr := fun o ⟨r, e⟩ => Or.inr (fun cs U fr => by rw [e]; exact hnl _ _ _ _)
      refine wpIn_mono (hbody _ pre x _ (hI _ _ _ (w.heap.size + 1) hi (by omega) (fun o ho => by rw [hl] at ho; exact hrt o ⟨_, (Option.some.inj ho).symm⟩) (IterC.put _ _ W _)) hpx) ?_
      rintro e a3 W3 hp
      cases e with
      | normal =>
        obtain ⟨hkt, hkn, hi3⟩ := hp
        have hl3 := hkn _ _ hl2 (hnl _)
        have hd3 := hkn _ _ hk2 (hnd _)
        have hr := run_endRound (P := P) none hl3
        rw [hrec] at hr
        refine ⟨_, _, hr, rfl, ⟨?_, ?_, ?_⟩, ?_⟩
        · exact hI _ _ _ (w.heap.size + 1) hi3 (by omega) (fun o ho => by rw [hl3] at ho; exact hrt o ⟨_, (Option.some.inj ho).symm⟩) (IterC.put _ _ W3 _)
        · rw [hrec]; exact World.putObj_heap_same (Array.getElem?_eq_some_iff.1 hl3).1
        · exact (World.putObj_heap_other (by omega)).trans hd3
        · exact ((KeepsT.put hl (hnl _)).trans hkt).trans (KeepsT.put hl3 (hnl _))
      | ret => exact hp.elim
      | exit id => exact hp.elim
      | goto t => exact hp.elim
      | panic ch => exact hp.elim
      | outgrown => exact hp.elim
    · -- behind the iterator
      rintro e W2 ⟨⟨v, rfl⟩, hi, hl, hk⟩
      refine ⟨none, _, by have := run_endLoop (P := P) hl (by rw [hrec]; simp); rw [hrec] at this; exact this, hdone _ _ (hI _ _ _ (w.heap.size + 1) hi (by omega) (fun o ho => ?_) (IterC.put _ _ W2 _)) (Nat.le_refl _) ((World.putObj_heap_other (by omega)).trans hk)⟩
      rw [hl] at ho
      exact Or.inr (fun cs U fr => by rw [← Option.some.inj ho]; exact hnl _ _ _ _)

end Go.Proofs.Ytmfolclpddoplaa

/- Plain facts: lists of vertices as masks; what stays while rows of rows turn. -/
namespace Go.Proofs.Ytmfolclpddoplaa
open Go.RowKit

/-- The mask of a list. -/
def mkB (z : List Int) : Nat := pm (fun u => hasB z (u : Int))
theorem mkB_lt (z : List Int) : mkB z < 65536 := pm_lt _
theorem mkB_nil : mkB [] = 0 := by
  apply Nat.eq_of_testBit_eq
  intro j
  unfold mkB
  rw [pm_bit, Nat.zero_testBit]
  simp [hasB_nil]
theorem pm_or (p q : Nat → Bool) : pm p ||| pm q = pm (fun u => p u || q u) := by
  apply Nat.eq_of_testBit_eq
  intro j
  rw [Nat.testBit_or, pm_bit, pm_bit, pm_bit]
  cases decide (j < 16) <;> simp
theorem pm_andB (p q : Nat → Bool) : pm p &&& pm q = pm (fun u => p u && q u) := by
  apply Nat.eq_of_testBit_eq
  intro j
  rw [Nat.testBit_and, pm_bit, pm_bit, pm_bit]
  cases decide (j < 16) <;> simp
theorem mkB_snoc (z : List Int) {x : Nat} (hx : x < 16) : mkB (z ++ [(x : Int)]) = mkB z ||| 2 ^ x := by
  apply Nat.eq_of_testBit_eq
  intro j
  unfold mkB
  rw [Nat.testBit_or, pm_bit, pm_bit, hasB_snoc, Nat.testBit_two_pow]
  by_cases e : x = j
  · subst e; simp [hx]
  · have : ((j : Int) == (x : Int)) = false := by rw [beq_eq_false_iff_ne]; omega
    rw [this]; simp [e]
theorem mkB_meet (A : Nat → Nat → Bool) (z : List Int) (x : Nat) : mkB z &&& pm (A x) = mkB (meetA A z (x : Int)) := by
  unfold mkB
  rw [pm_andB]
  refine pm_congr (fun j _ => ?_)
  rw [Bool.eq_iff_iff, Bool.and_eq_true, hasB_mem, hasB_mem, meetA_mem, Int.toNat_natCast, Int.toNat_natCast]
theorem mkB_zero {n : Nat} (hn : n ≤ 16) {z : List Int} (hz : VtxL n z) : mkB z = 0 ↔ z = [] := by
  constructor
  · intro h
    cases z with
    | nil => rfl
    | cons a t =>
      exfalso
      have ha := hz a List.mem_cons_self
      have hb : (mkB (a :: t)).testBit a.toNat = true := by
        unfold mkB
        rw [pm_bit, Bool.and_eq_true, decide_eq_true_iff, hasB_mem]
        exact ⟨by omega, by rw [show ((a.toNat : Nat) : Int) = a by omega]; exact List.mem_cons_self⟩
      rw [h] at hb; simp at hb
  · rintro rfl; exact mkB_nil
theorem mkB_prune {A : Nat → Nat → Bool} {n : Nat} (hn : n ≤ 16) {z : List Int} (hz : VtxL n z) (v : Nat) : clrM (mkB z) (pm (A v)) = 0 ↔ ∀ u ∈ z, A v u.toNat = true := by
  unfold mkB
  rw [clr_pm]
  constructor
  · intro h u hu
    have hb := hz u hu
    have h1 : (pm (fun j => hasB z (j : Int) && !A v j)).testBit u.toNat = false := by rw [h]; simp
    rw [pm_bit, decide_eq_true (by omega), Bool.true_and, show ((u.toNat : Nat) : Int) = u by omega, (hasB_mem _ _).2 hu, Bool.true_and] at h1
    simpa using h1
  · intro h
    apply Nat.eq_of_testBit_eq
    intro j
    rw [pm_bit, Nat.zero_testBit]
    cases hb : hasB z (j : Int) with
    | false => simp
    | true =>
      have := h _ ((hasB_mem _ _).1 hb)
      rw [Int.toNat_natCast] at this
      rw [this]; simp
theorem SetP.dropped {z : List Int} {n : Int} (h : SetP z n) (k : Nat) : SetP (z.drop k) n := SetP.mk (h.pairwise.sublist (List.drop_sublist _ _)) (fun x hx => h.bounds x (List.mem_of_mem_drop hx))
theorem SetP.meet {A : Nat → Nat → Bool} {z : List Int} {n v : Int} (h : SetP z n) : SetP (meetA A z v) n := SetP.mk (h.pairwise.sublist List.filter_sublist) (fun x hx => h.bounds x (meetA_mem.1 hx).1)
theorem SetP.vtx {z : List Int} {n : Nat} (h : SetP z n) : VtxL n z := fun x hx => by have := h.bounds x hx; omega
theorem mkB_cut {n : Nat} {z : List Int} (h : SetP z n) {k x : Nat} (hk : k < z.length) (hx : nth z k = (x : Int)) (hx16 : x < 16) : clrM (mkB (z.drop k)) (2 ^ x) = mkB (z.drop (k + 1)) := by
  unfold mkB
  rw [clr_pow _ hx16]
  have ed : z.drop k = (x : Int) :: z.drop (k + 1) := by rw [List.drop_eq_getElem_cons hk, ← nth_eq hk, hx]
  have hp := (h.dropped k).pairwise
  rw [ed, List.pairwise_cons] at hp
  refine pm_congr (fun j _ => ?_)
  rw [ed, Bool.eq_iff_iff, Bool.and_eq_true, hasB_mem, hasB_mem, bne_iff_ne, List.mem_cons]
  constructor
  · rintro ⟨h1 | h1, h2⟩
    · omega
    · exact h1
  · intro h1
    refine ⟨Or.inr h1, fun e => ?_⟩
    have := hp.1 _ h1
    omega
theorem mkB_list {n : Nat} (hn : n ≤ 16) {z : List Int} (h : SetP z n) : listM (mkB z) = z := (set_pm hn h).2.1
/-- What is found are sets. -/
theorem cqF_sets (A : Nat → Nat → Bool) {n : Nat} : ∀ (f : Nat) (set left out : List Int), SetP set n → SetP left n → (∀ x ∈ set, ∀ y ∈ left, x < y) → ∀ z ∈ cqF A f set left out, SetP z n
  | 0, _, _, _, _, _, _ => fun z hz => by simp [cqF] at hz
  | f + 1, set, left, out, hs, hl, hsl => fun z hz => by
    by_cases h : left = [] ∧ out = []
    · obtain ⟨rfl, rfl⟩ := h
      rw [cqF_leaf, List.mem_singleton] at hz
      subst hz; exact hs
    · rw [cqF_all h] at hz
      unfold cqTo at hz
      obtain ⟨i, hi, hz⟩ := List.mem_flatMap.1 hz
      rw [List.mem_range] at hi
      have hx := nth_mem hi
      have hp := hl.pairwise
      have ed : left.drop i = nth left i :: left.drop (i + 1) := by rw [List.drop_eq_getElem_cons hi, ← nth_eq hi]
      have hpd := (hl.dropped i).pairwise
      rw [ed, List.pairwise_cons] at hpd
      refine cqF_sets A f _ _ _ (SetP.mk ?_ (fun y hy => ?_)) (hl.dropped _).meet (fun y hy u hu => ?_) z hz
      · rw [List.pairwise_append]
        refine ⟨hs.pairwise, by simp, fun a ha b hb => ?_⟩
        rw [List.mem_singleton] at hb
        subst hb
        exact hsl a ha _ hx
      · rcases List.mem_append.1 hy with h1 | h1
        · exact hs.bounds y h1
        · rw [List.mem_singleton] at h1; subst h1; exact hl.bounds _ hx
      · have hu2 := (meetA_mem.1 hu).1
        rcases List.mem_append.1 hy with h1 | h1
        · exact hsl y h1 u (List.mem_of_mem_drop hu2)
        · rw [List.mem_singleton] at h1; subst h1; exact hpd.1 u hu2

/-- A row of numbers stays. -/
theorem OwnRow.kt {w w' : World} {B : Nat} {v : Value} {xs : List Int} (h : OwnRow 2 w B v xs) (hk : KeepsT w w') : OwnRow 2 w' B v xs := by
  obtain ⟨h1, h2, h3⟩ := h
  refine ⟨h1, h2, ?_⟩
  rcases h3 with h3 | ⟨g, cap, cur, e, hg, hh, r⟩
  · exact Or.inl h3
  · exact Or.inr ⟨g, cap, cur, e, hg, hk _ _ _ _ hh (by decide) (by decide), r⟩
theorem NetBlk.kt {w w' : World} {g n : Nat} {M : Nat → Nat} (h : NetBlk 65 w g n M) (hk : KeepsT w w') : NetBlk 65 w' g n M := hk _ _ _ _ h (by decide) (by decide)
theorem BoxM.kt {w w' : World} {b : Nat} {v : Value} (h : BoxT 62 w b v) (hk : KeepsT w w') : BoxT 62 w' b v := hk _ _ _ _ h (by decide) (by decide)
theorem KeepsT.setNew {A B : World} (h : KeepsT A B) {b i : Nat} {v : Value} (hb : A.heap.size ≤ b) : KeepsT A (B.setCell ⟨b, i, none⟩ v) := fun k cs U fr hk h1 h2 => by
  have := (Array.getElem?_eq_some_iff.1 hk).1
  rw [Below.heap_setCell B ⟨b, i, none⟩ v k (by simp; omega)]
  exact h k cs U fr hk h1 h2

end Go.Proofs.Ytmfolclpddoplaa
