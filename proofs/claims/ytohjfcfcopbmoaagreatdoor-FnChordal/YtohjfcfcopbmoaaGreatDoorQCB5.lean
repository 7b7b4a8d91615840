/- The texts CB5, CB6, joined. -/
import Derived.Test.YtohjfcfcopbmoaaGreatDoorQLL3
import Derived.Test.YtohjfcfcopbmoaaGreatDoorQPO3
import Derived.Test.YtohjfcfcopbmoaaGreatDoorQY2
import Derived.RangeFuncFrom
import Derived.RangeFuncCalls
import Derived.Test.YtohjfcfcopbmoaaGreatDoorQX2

/- Walks: the bends of a net, one after another (an iterator that makes lists of its own, within a body that makes memory too). -/
namespace Go.Proofs.YtohjfcfcopbmoaaGreatDoor
open Go.RowKit Go.Shelf
attribute [local go_sem] Oper.semAt_some

/-- As SeqPre: the iterator knows that the record of its loop lies below what it makes. -/
def SeqPrL {α : Type} (F : Fence) (n : Nat) (P : Program) (g : Nat) (lb : Array Value) (encs : α → Array Value) (Kp : World → World → Prop) (Pp : List α → α → Prop) (S : List α → Prop) (w : World) : Prop :=
  ∀ (l : Nat) (J Jx : List α → World → Prop) (W : World), Below w.heap.size w W → w.heap.size + 1 < W.heap.size →
    (∀ s A B, J s A → Below A.heap.size A B → J s B) →
    (∀ pre x W1, J pre W1 → Pp pre x → YieldAt F (n - 1) P l (encs x) W1 fun e W' =>
      (e = .returned (.bool true) ∧ J (pre ++ [x]) W' ∧ Kp W1 W') ∨ (e = .returned (.bool false) ∧ Jx (pre ++ [x]) W')) →
    J [] W →
    CallsIn F n P g (#[.func (.yield l) #[] #[]] ++ lb) W fun e W' => (∃ v, e = .returned v) ∧ ((∃ xs, S xs ∧ J xs W') ∨ (∃ pre, Jx pre W'))

theorem wpIn_rangeFunc_prL {F : Fence} {n : Nat} {P : Program} {α : Type} {g : Operand} {ps : Array Tmp} {assign body : Code} {Q : Exit → Act → World → Prop} {a : Act} {w : World}
    (hro : F.round = none) (h1 : 1 ≤ n) {gf : Nat} {lb : Array Value} (hg : a.eval g = .func (.func gf) #[] lb) (hFg : F.fn gf) (eg : ∀ args w, (callFunc gf args).run P w = .ok (.enter gf args) w)
    {encs : α → Array Value} {Kp : World → World → Prop} {Pp : List α → α → Prop} {S : List α → Prop} (hseq : SeqPrL F (n - 1) P gf lb encs Kp Pp S w)
    (hKt : ∀ {A B C : World}, Kp A B → Kp B C → Kp A C) (hKp : ∀ (W : World) (o : Obj), Kp W (W.putObj (w.heap.size + 1) o)) (hps : ∀ x, (encs x).size = ps.size)
    (I : List α → World → Prop) (Ix : Code → List α → World → Prop) (hI : ∀ s A B, I s A → Below A.heap.size A B → I s B)
    (hIp : ∀ s A r o, I s A → A.heap[w.heap.size + 1]? = some (.loop r) → I s (A.putObj (w.heap.size + 1) o)) (hIxp : ∀ c s A r o, Ix c s A → A.heap[w.heap.size + 1]? = some (.loop r) → Ix c s (A.putObj (w.heap.size + 1) o)) (h0 : I [] w) (a₁ : α → World → Act) (W₁ : α → World → World) (hb₁ : ∀ x W, Below W.heap.size W (W₁ x W)) (hKb : ∀ {A B : World}, Below A.heap.size A B → Kp A B)
    (hassign : ∀ (l : Nat) (x : α) (W : World) (K : Act → World → Prop), K (a₁ x W) (W₁ x W) →
      assign.wpIn (F.inRound l) (n - 1 - 1) P (Exit.then K (fun _ _ _ => False)) { tmps := (ps.zip (encs x)).foldl (fun t (p, v) => t.setIfInBounds p v) a.tmps, defers := [] } W)
    (hbody : ∀ (l : Nat) (pre : List α) (x : α) (W : World) (o : Obj), I pre ((W₁ x W).putObj (w.heap.size + 1) o) → w.heap.size + 1 < W.heap.size → (∃ o', ((W₁ x W).putObj (w.heap.size + 1) o).heap[w.heap.size]? = some (.deferred o')) → (∃ r, ((W₁ x W).putObj (w.heap.size + 1) o).heap[w.heap.size + 1]? = some (.loop r)) → Pp pre x →
      body.wpIn (F.inRound l) (n - 1 - 1) P (prePost w.heap.size Kp I Ix (pre ++ [x]) ((W₁ x W).putObj (w.heap.size + 1) o)) (a₁ x W) ((W₁ x W).putObj (w.heap.size + 1) o))
    (hdone : ∀ (D : Nat) (xs : List α) (W : World), S xs → I xs W → w.heap.size ≤ D → W.heap[D]? = some (.deferred (some [])) → Q .normal { a with defers := { target := .collected D, args := #[] } :: a.defers } W)
    (hstop : ∀ (D : Nat) (c : Code) (pre : List α) (W : World), Ix c pre W → w.heap.size ≤ D → W.heap[D]? = some (.deferred (some [])) → c.wpIn F n P Q { a with defers := { target := .collected D, args := #[] } :: a.defers } W) :
    (Code.rangeFunc g ps assign body).wpIn F n P Q a w := by
  refine wpIn_rangeFunc ?_
  intro fn hfn
  rw [hro]
  obtain ⟨rec, hrec⟩ : ∃ rec : LoopState → Option Code → Loop, rec = fun st pe => { state := st, pending := pe, fn, tmps := a.tmps, params := ps, assign, body, defers := w.heap.size } := ⟨_, rfl⟩
  obtain ⟨W1, hW1⟩ : ∃ W1, (w.alloc (.deferred (some []))).alloc (.loop (rec .ready none)) = W1 := ⟨_, rfl⟩
  have hL1 : W1.heap[w.heap.size + 1]? = some (.loop (rec .ready none)) := by
    rw [← hW1]; have := World.alloc_heap_new (w.alloc (.deferred (some []))) (.loop (rec .ready none)); rwa [World.size_alloc] at this
  have hK1 : W1.heap[w.heap.size]? = some (.deferred (some [])) := by
    rw [← hW1]; exact (Below.heap_alloc _ _ _ (by simp)).trans (World.alloc_heap_new w _)
  have hb1 : Below w.heap.size w W1 := by
    rw [← hW1]; exact ((Below.refl _ w).alloc (Nat.le_refl _) _).alloc (by simp) _
  have hI1 : I [] W1 := hI _ _ _ h0 hb1
  have hsz1 : w.heap.size + 1 < W1.heap.size := (Array.getElem?_eq_some_iff.1 hL1).1
  refine ⟨w.heap.size + 1, [{ target := .collected w.heap.size, args := #[] }], W1, { target := .fn (.func gf) lb, args := #[.func (.yield (w.heap.size + 1)) #[] #[]] }, W1, gf,
    #[.func (.yield (w.heap.size + 1)) #[] #[]] ++ lb, W1, ?_, ?_, ?_, ?_, fun _ => h1, ?_⟩
  · rw [← hW1, hrec]; exact run_enterLoop_outer _ _ _ _ _
  · simp only [resolve, hg]
    simp [go_sem]
  · intro f' hf'; simp [Target.leads] at hf'; subst hf'; exact hFg
  · simp [invoke, go_sem, eg]
  · refine (hseq (w.heap.size + 1)
      (fun pre W => I pre W ∧ W.heap[w.heap.size + 1]? = some (.loop (rec .ready none)) ∧ W.heap[w.heap.size]? = some (.deferred (some [])))
      (fun pre W => ∃ c, Ix c pre W ∧ W.heap[w.heap.size + 1]? = some (.loop (rec .done (some c))) ∧ W.heap[w.heap.size]? = some (.deferred (some [])))
      W1 hb1 hsz1
      (fun s A B hs hb => ⟨hI s A B hs.1 hb, (hb.block _ (Array.getElem?_eq_some_iff.1 hs.2.1).1).trans hs.2.1, (hb.block _ (Array.getElem?_eq_some_iff.1 hs.2.2).1).trans hs.2.2⟩)
      ?_ ⟨hI1, hL1, hK1⟩).mono ?_
    · -- one round
      rintro pre x W0 ⟨hi0, hl0, hk0⟩ hpx
      have hbV := hb₁ x W0
      have hlt0 : w.heap.size + 1 < W0.heap.size := (Array.getElem?_eq_some_iff.1 hl0).1
      obtain ⟨W, hWV⟩ : ∃ W, W = W₁ x W0 := ⟨_, rfl⟩
      have hi : I pre W := by rw [hWV]; exact hI _ _ _ hi0 hbV
      have hl : W.heap[w.heap.size + 1]? = some (.loop (rec .ready none)) := by rw [hWV, hbV.block _ hlt0]; exact hl0
      have hk : W.heap[w.heap.size]? = some (.deferred (some [])) := by rw [hWV, hbV.block _ (by omega)]; exact hk0
      have has := hassign (w.heap.size + 1) x W0
      rw [← hWV] at has
      have hKV : Kp W0 W := by rw [hWV]; exact hKb hbV
      have hlt : w.heap.size + 1 < W.heap.size := (Array.getElem?_eq_some_iff.1 hl).1
      have hy := run_yield (P := P) (args := encs x) hl0 (by rw [hrec]; exact hps x)
      rw [hrec] at hy
      refine ⟨fn, _, assign, body, hy, roundIn_of_wpIn hfn (has _ ⟨_, run_beginRound hl (by rw [hrec]), ?_⟩)⟩
      have hl2 : (W.putObj (w.heap.size + 1) (.loop { rec .ready none with state := .busy })).heap[w.heap.size + 1]? = some (.loop { rec .ready none with state := .busy }) := World.putObj_heap_same hlt
      have hk2 : (W.putObj (w.heap.size + 1) (.loop { rec .ready none with state := .busy })).heap[w.heap.size]? = some (.deferred (some [])) := (World.putObj_heap_other (by omega)).trans hk
      have hsz2 : (W.putObj (w.heap.size + 1) (.loop { rec .ready none with state := .busy })).heap.size = W.heap.size := by simp
      have hbd := hbody (w.heap.size + 1) pre x W0 (.loop { rec .ready none with state := .busy }) (by rw [← hWV]; exact hIp _ _ _ _ hi hl) hlt0 ⟨_, by rw [← hWV]; exact hk2⟩ ⟨_, by rw [← hWV]; exact hl2⟩ hpx
      rw [← hWV] at hbd
      refine wpIn_mono hbd ?_
      have fin : ∀ (jump : Option Code) (W3 : World), Two2 w.heap.size (W.putObj (w.heap.size + 1) (.loop { rec .ready none with state := .busy })) W3 →
          (Instr.endRound (w.heap.size + 1) jump).run P W3 = .ok (.bool jump.isNone) (W3.putObj (w.heap.size + 1) (.loop (rec (if jump.isNone then .ready else .done) jump))) ∧
          W3.heap[w.heap.size + 1]? = some (.loop { rec .ready none with state := .busy }) ∧
          (W3.putObj (w.heap.size + 1) (.loop (rec (if jump.isNone then .ready else .done) jump))).heap[w.heap.size + 1]? = some (.loop (rec (if jump.isNone then .ready else .done) jump)) ∧
          (W3.putObj (w.heap.size + 1) (.loop (rec (if jump.isNone then .ready else .done) jump))).heap[w.heap.size]? = some (.deferred (some [])) := fun jump W3 hk3 => by
        have hl3 := hk3.2.trans hl2
        have := run_endRound (P := P) jump hl3
        rw [hrec] at this ⊢
        exact ⟨this, by rw [hrec] at hl3; exact hl3, World.putObj_heap_same (Array.getElem?_eq_some_iff.1 hl3).1, (World.putObj_heap_other (by omega)).trans (hk3.1.trans hk2)⟩
      rintro e a3 W3 hp
      cases e with
      | normal =>
        obtain ⟨h2, hk3, hi3⟩ := hp
        obtain ⟨hr, hl3, hl4, hk4⟩ := fin none W3 h2
        exact ⟨_, _, hr, .inl ⟨rfl, ⟨hIp _ _ _ _ hi3 hl3, hl4, hk4⟩, hKt hKV (hKt (hKt (hKp W _) hk3) (hKp W3 _))⟩⟩
      | ret =>
        obtain ⟨h2, hi3⟩ := hp
        obtain ⟨hr, hl3, hl4, hk4⟩ := fin (some .ret) W3 h2
        exact ⟨_, _, hr, .inr ⟨rfl, ⟨.ret, hIxp _ _ _ _ _ hi3 hl3, hl4, hk4⟩⟩⟩
      | exit id =>
        obtain ⟨h2, hi3⟩ := hp
        obtain ⟨hr, hl3, hl4, hk4⟩ := fin (some (.exit id)) W3 h2
        exact ⟨_, _, hr, .inr ⟨rfl, ⟨.exit id, hIxp _ _ _ _ _ hi3 hl3, hl4, hk4⟩⟩⟩
      | goto t =>
        obtain ⟨h2, hi3⟩ := hp
        obtain ⟨hr, hl3, hl4, hk4⟩ := fin (some (.goto t)) W3 h2
        exact ⟨_, _, hr, .inr ⟨rfl, ⟨.goto t, hIxp _ _ _ _ _ hi3 hl3, hl4, hk4⟩⟩⟩
      | panic ch => exact hp.elim
      | outgrown => exact hp.elim
    · -- behind the iterator
      rintro e W2 ⟨⟨v, rfl⟩, (⟨xs, hS, hi, hl, hk⟩ | ⟨pre, c, hi, hl, hk⟩)⟩
      · exact ⟨none, _, by have := run_endLoop (P := P) hl (by rw [hrec]; simp); rw [hrec] at this; exact this, hdone _ xs _ hS (hIp _ _ _ _ hi hl) (Nat.le_refl _) ((World.putObj_heap_other (by omega)).trans hk)⟩
      · exact ⟨some c, _, by have := run_endLoop (P := P) hl (by rw [hrec]; simp); rw [hrec] at this; exact this, hstop _ c pre _ (hIxp _ _ _ _ _ hi hl) (Nat.le_refl _) ((World.putObj_heap_other (by omega)).trans hk)⟩


/-- The bends at u whose first is v, so far. -/
def bW (M : Nat → Nat) (u v r : Nat) : List (Nat × Nat × Nat) := (((listM (clrM (M u) (M v))).take r).filter (fun x => decide ((v : Int) < x))).map (fun x => (u, v, x.toNat))
/-- The bends at u, so far. -/
def bV (M : Nat → Nat) (u q : Nat) : List (Nat × Nat × Nat) := ((listM (M u)).take q).flatMap (fun v => bW M u v.toNat 16)
/-- The bends at the first vertices. -/
def bU (M : Nat → Nat) (s : Nat) : List (Nat × Nat × Nat) := (List.range s).flatMap (fun u => bV M u 16)
theorem bW_eq {M : Nat → Nat} (hM : ∀ i, M i < 65536) (u v : Nat) : bW M u v 16 = (bendW M u v).map (fun x => (u, v, x)) := by
  unfold bW bendW
  rw [List.take_of_length_le (listM_len _)]
  unfold listM
  rw [List.filter_map, List.map_map, List.filter_filter]
  have e1 : (fun i => (clrM (M u) (M v)).testBit i) = fun i => (M u).testBit i && !(M v).testBit i := by
    funext i; exact clrM_bit (hM u) (hM v) i
  have e2 : ((fun x : Int => (u, v, x.toNat)) ∘ fun i : Nat => (i : Int)) = fun x => (u, v, x) := by
    funext i; simp
  rw [e2]
  congr 1
  apply List.filter_congr
  intro i _
  have e3 := congrFun e1 i
  rw [e3]
  simp only [Function.comp, Int.ofNat_lt]
  cases (M u).testBit i <;> cases (M v).testBit i <;> cases decide (v < i) <;> rfl
theorem bV_eq {M : Nat → Nat} (hM : ∀ i, M i < 65536) (u : Nat) : bV M u 16 = bendV M u := by
  unfold bV bendV
  rw [List.take_of_length_le (listM_len _)]
  unfold listM
  rw [List.flatMap_map]
  congr 1
  funext v
  rw [Int.toNat_natCast, bW_eq hM]
theorem bU_eq {M : Nat → Nat} (hM : ∀ i, M i < 65536) (n : Nat) : bU M n = bendZ M n := by
  unfold bU bendZ
  congr 1
  funext u
  exact bV_eq hM u
theorem bW_zero (M : Nat → Nat) (u v : Nat) : bW M u v 0 = [] := by simp [bW]
theorem bV_zero (M : Nat → Nat) (u : Nat) : bV M u 0 = [] := by simp [bV]
theorem bU_zero (M : Nat → Nat) : bU M 0 = [] := by simp [bU]
theorem bU_succ (M : Nat → Nat) (s : Nat) : bU M (s + 1) = bU M s ++ bV M s 16 := by
  unfold bU
  rw [List.range_succ, List.flatMap_append]
  simp
theorem bV_succ {M : Nat → Nat} {u q : Nat} (h : q < (listM (M u)).length) : bV M u (q + 1) = bV M u q ++ bW M u (nth (listM (M u)) q).toNat 16 := by
  unfold bV
  rw [List.take_succ_eq_append_getElem h, List.flatMap_append, ← nth_eq h]
  simp
theorem bW_yes {M : Nat → Nat} {u v r : Nat} (h : r < (listM (clrM (M u) (M v))).length) (hlt : (v : Int) < nth (listM (clrM (M u) (M v))) r) : bW M u v (r + 1) = bW M u v r ++ [(u, v, (nth (listM (clrM (M u) (M v))) r).toNat)] := by
  unfold bW
  rw [List.take_succ_eq_append_getElem h, List.filter_append, List.map_append, ← nth_eq h, List.filter_cons_of_pos (by simpa using hlt)]
  rfl
theorem bW_no {M : Nat → Nat} {u v r : Nat} (h : r < (listM (clrM (M u) (M v))).length) (hlt : ¬ (v : Int) < nth (listM (clrM (M u) (M v))) r) : bW M u v (r + 1) = bW M u v r := by
  unfold bW
  rw [List.take_succ_eq_append_getElem h, List.filter_append, List.map_append, ← nth_eq h, List.filter_cons_of_neg (by simpa using hlt)]
  simp
theorem bW_all {M : Nat → Nat} {u v r : Nat} (h : (listM (clrM (M u) (M v))).length ≤ r) : bW M u v r = bW M u v 16 := by
  unfold bW
  rw [List.take_of_length_le h, List.take_of_length_le (listM_len _)]
theorem bV_all {M : Nat → Nat} {u q : Nat} (h : (listM (M u)).length ≤ q) : bV M u q = bV M u 16 := by
  unfold bV
  rw [List.take_of_length_le h, List.take_of_length_le (listM_len _)]
theorem flat_prefix {α β : Type} {a b : List α} (f : α → List β) (h : a <+: b) : a.flatMap f <+: b.flatMap f := by
  obtain ⟨t, rfl⟩ := h
  rw [List.flatMap_append]
  exact List.prefix_append _ _
theorem bW_pre (M : Nat → Nat) (u v r : Nat) : bW M u v r <+: bW M u v 16 := by
  unfold bW
  rw [List.take_of_length_le (listM_len (clrM (M u) (M v)))]
  exact ((List.take_prefix _ _).filter _).map _
theorem bV_pre (M : Nat → Nat) (u q : Nat) : bV M u q <+: bV M u 16 := by
  unfold bV
  rw [List.take_of_length_le (listM_len (M u))]
  exact flat_prefix _ (List.take_prefix _ _)
theorem bU_pre (M : Nat → Nat) {s n : Nat} (h : s ≤ n) : bU M s <+: bU M n := by
  unfold bU
  refine flat_prefix _ ?_
  rw [List.prefix_iff_eq_take, List.take_range, List.length_range, Nat.min_eq_left h]
/-- What has been told is a beginning of all bends. -/
theorem bend_pre {M : Nat → Nat} (hM : ∀ i, M i < 65536) {n s q r : Nat} (hs : s < n) (hq : q < (listM (M s)).length) : bU M s ++ bV M s q ++ bW M s (nth (listM (M s)) q).toNat r <+: bendZ M n := by
  rw [← bU_eq hM]
  refine List.IsPrefix.trans ?_ (bU_pre M (show s + 1 ≤ n by omega))
  rw [bU_succ, List.append_assoc, List.prefix_append_right_inj]
  refine List.IsPrefix.trans ?_ (bV_pre M s (q + 1))
  rw [bV_succ hq, List.prefix_append_right_inj]
  exact bW_pre _ _ _ _

/-- What the body keeps: all cells but those of boxes of rows; the loop's record may turn. -/
structure KpB (c : Nat) (A B : World) : Prop where
  size : A.heap.size ≤ B.heap.size
  at_ : ∀ (k : Nat) (cs : Array Value) (T : TypeId) (fr : Nat × Nat), k ≠ c → T ≠ 33 → A.heap[k]? = some (Obj.cells cs T fr) → B.heap[k]? = some (Obj.cells cs T fr)
theorem KpB.trans {c : Nat} {A B C : World} (h : KpB c A B) (k : KpB c B C) : KpB c A C := ⟨Nat.le_trans h.size k.size, fun j cs T fr h1 h2 h3 => k.at_ j cs T fr h1 h2 (h.at_ j cs T fr h1 h2 h3)⟩
theorem KpB.refl (c : Nat) (A : World) : KpB c A A := ⟨Nat.le_refl _, fun _ _ _ _ _ _ h => h⟩
theorem KpB.below {c : Nat} {A B : World} (h : Below A.heap.size A B) : KpB c A B := ⟨h.size, fun k cs T fr _ _ h3 => by rw [h.block k (Array.getElem?_eq_some_iff.1 h3).1]; exact h3⟩
theorem KpB.put (c : Nat) (A : World) (o : Obj) : KpB c A (A.putObj c o) := ⟨by simp, fun k cs T fr h1 _ h3 => (World.putObj_heap_other h1).trans h3⟩
theorem OwnRow.kpB {c : Nat} {A B : World} {B0 : Nat} {v : Value} {xs : List Int} (h : OwnRow 2 A B0 v xs) (hc : c < B0) (hk : KpB c A B) : OwnRow 2 B B0 v xs := by
  obtain ⟨h1, h2, h3⟩ := h
  refine ⟨h1, h2, ?_⟩
  rcases h3 with h3 | ⟨g, cap, cur, e, hg, hh, r⟩
  · exact Or.inl h3
  · exact Or.inr ⟨g, cap, cur, e, hg, hk.at_ _ _ _ _ (by omega) (by decide) hh, r⟩

/-- What the iterator of the bends reads. -/
structure BendIn (w : World) (c pt bn n : Nat) (M : Nat → Nat) : Prop where
  t : w.heap[pt]? = some (.cells #[.pointer (some ⟨bn, 0, none⟩)] 191 (0, 0))
  net : NetBlk 83 w bn n M
  pc : pt ≠ c
  bc : bn ≠ c
theorem BendIn.kpB {c : Nat} {A B : World} {pt bn n : Nat} {M : Nat → Nat} (h : BendIn A c pt bn n M) (hk : KpB c A B) : BendIn B c pt bn n M :=
  ⟨hk.at_ _ _ _ _ h.pc (by decide) h.t, hk.at_ _ _ _ _ h.bc (by decide) h.net, h.pc, h.bc⟩
theorem BendIn.keep {c : Nat} {A B : World} {pt bn n : Nat} {M : Nat → Nat} (h : BendIn A c pt bn n M) (hb : Below A.heap.size A B) : BendIn B c pt bn n M := h.kpB (KpB.below hb)
theorem BendIn.box {c : Nat} {A : World} {pt bn n : Nat} {M : Nat → Nat} (h : BendIn A c pt bn n M) : A.cell? ⟨pt, 0, none⟩ = some (.pointer (some ⟨bn, 0, none⟩)) := by
  rw [cell_of_row A _ 0 _ _ _ h.t]; rfl
/-- Three numbers, as yield takes them. -/
def encT (t : Nat × Nat × Nat) : Array Value := #[.agg #[.int .i64 (t.1 : Int), .int .i64 (t.2.1 : Int), .int .i64 (t.2.2 : Int)]]

end Go.Proofs.YtohjfcfcopbmoaaGreatDoor

/- Walks: the iterator of the bends. -/
namespace Go.Proofs.YtohjfcfcopbmoaaGreatDoor
open Go.RowKit Go.Shelf
attribute [local go_sem] Oper.semAt_some

theorem bends_any (bn : Nat) (w : World) :
    Calls Tryz.prog 97 #[.pointer (some ⟨bn, 0, none⟩)] w fun e w' =>
      e = .returned (.func (.func 185) #[] #[.pointer (some ⟨w.heap.size, 0, none⟩)]) ∧
      w' = w.alloc (.cells #[.pointer (some ⟨bn, 0, none⟩)] 191) := by
  have hmf : ∀ (fn : Fn) (first cap : Array Value) (w : World), (Instr.makeFunc fn first cap).run Tryz.prog w = .ok (.func fn first cap) w := fun _ _ _ _ => rfl
  go_enter Tryz.func97, Tryz.ntmps97
  go_wp2
  go_ret
  exact ⟨rfl, rfl⟩

set_option maxHeartbeats 8000000 in
set_option maxRecDepth 100000 in
theorem bends1_seq (m pt bn n : Nat) (M : Nat → Nat) (w : World) (hM : ∀ i, M i < 65536) (hn : n ≤ 16) (hin : BendIn w (w.heap.size + 1) pt bn n M) :
    SeqPrL Fence.wide m Tryz.prog 185 #[.pointer (some ⟨pt, 0, none⟩)] encT (KpB (w.heap.size + 1)) (fun pre t => pre ++ [t] <+: bendZ M n) (fun xs => xs = bendZ M n) w := by
  intro l J Jx W hW hWs hJ hY h0
  obtain ⟨c, hc⟩ : ∃ c, c = w.heap.size + 1 := ⟨_, rfl⟩
  rw [← hc] at hin hWs hY
  have hin1 := hin.keep hW
  have HIN := Lib.hid hin1
  have HJ := Lib.hid hJ
  have HY := Lib.hid hY
  have H0 := Lib.hid h0
  have kb := hin1.box
  have kn := hin1.net.at.1
  clear hin hW hJ hY h0 hin1 hc
  refine callsIn_of_wp Tryz.func185 rfl trivial ?_ rfl
  simp only [Tryz.ntmps185, List.size_toArray, List.length_cons, List.length_nil, Nat.reduceAdd, Nat.reduceSub, Array.replicate_succ, Array.replicate_zero, List.push_toArray, List.append_toArray, List.nil_append, List.cons_append]
  gi_wp2
  clear kb kn
  gi_loopw [12] (fun iv wr => ∃ s : Nat, s ≤ n ∧ iv = .int .i64 s ∧ BendIn wr c pt bn n M ∧ J (bU M s) wr ∧ W.heap.size ≤ wr.heap.size) (fun iv _ => n - (intOf iv).toNat)
  case atStart => exact ⟨0, Nat.zero_le _, rfl, HIN.out, by rw [bU_zero]; exact H0.out, Nat.le_refl _⟩
  case round =>
    obtain ⟨s, hs, rfl, hi, hj, hz⟩ := hrel
    have HI := Lib.hid hi
    have HJR := Lib.hid hj
    clear hj HIN H0
    by_cases hsn : s < n
    · have hs16 : s < 16 := by omega
      have kb := hi.box
      have kms := hi.net.at.2 s hs16
      clear hi
      gi_wp2_with fail
      refine ⟨trivial, fun h => (by cases h), ?_⟩
      refine (callsIn_wide.2 (list_any _ _ (hM s))).mono ?_
      rintro e w5 ⟨n5, a5, c5, rfl, ho5, hb5⟩
      obtain ⟨a5', c5', e5⟩ := ho5.row.slice
      simp only [Value.slice.injEq] at e5
      obtain ⟨rfl, rfl, rfl⟩ := e5
      have HO5 : Hid (OwnRow 2 w5 W.heap.size (.slice a5 (listM (M s)).length c5) (listM (M s))) := ho5.mono hz
      have HI5 := Lib.hid (HI.out.keep hb5)
      have HJ5 := Lib.hid (HJ.out _ _ _ HJR.out hb5)
      have hz5 : W.heap.size ≤ w5.heap.size := by have := hb5.size; omega
      have hls := listM_len (M s)
      clear ho5 hb5 kb kms HI HJR
      gi_wp2_with fail
      gi_loopw [23] (fun qv wx => ∃ q : Nat, q ≤ (listM (M s)).length ∧ qv = .int .i64 q ∧ BendIn wx c pt bn n M ∧ OwnRow 2 wx W.heap.size (.slice a5 (listM (M s)).length c5) (listM (M s)) ∧ J (bU M s ++ bV M s q) wx ∧ W.heap.size ≤ wx.heap.size) (fun qv _ => (listM (M s)).length - (intOf qv).toNat)
      case atStart => exact ⟨0, Nat.zero_le _, rfl, HI5.out, HO5.out, by rw [bV_zero, List.append_nil]; exact HJ5.out, hz5⟩
      case round =>
        rename World => wx
        obtain ⟨q, hq, rfl, hi, ho, hj, hzx⟩ := hrel
        have HI := Lib.hid hi
        have HO := Lib.hid ho
        have HJQ := Lib.hid hj
        clear hj HI5 HO5 HJ5 hz5
        by_cases hql : q < (listM (M s)).length
        · obtain ⟨g, cap, e5, hgB, hgl, hc1, hc2⟩ := ho.posB (by omega)
          simp only [Value.slice.injEq, true_and] at e5
          obtain ⟨rfl, rfl⟩ := e5
          obtain ⟨x, hx16, hxb, hxe⟩ := (listM_mem _ _).1 (nth_mem hql)
          have hcq := ho.cells' q hql
          rw [← hxe] at hcq
          have kb := hi.box
          have kms := hi.net.at.2 s hs16
          have kmx := hi.net.at.2 x hx16
          have HXE := Lib.hid hxe
          have KS : Hid (∀ W', Below wx.heap.size wx W' → W'.cell? ⟨pt, 0, none⟩ = some (.pointer (some ⟨bn, 0, none⟩)) ∧ W'.cell? ⟨bn, 1 + s, none⟩ = some (.int .u32 ((M s : Nat) : Int)) ∧ W'.cell? ⟨bn, 1 + x, none⟩ = some (.int .u32 ((M x : Nat) : Int))) := fun W' hb => ⟨cell_keep hb kb, cell_keep hb kms, cell_keep hb kmx⟩
          have hbits : bits BinOp.andNot IntKind.u32 ((M s : Nat) : Int) ((M x : Nat) : Int) = ((clrM (M s) (M x) : Nat) : Int) := by
            have h1 := hM s
            have h2 := hM x
            rw [u32_andNot_nat _ _ (by omega) (by omega)]; rfl
          have hx16I : (x : Int) < 16 := by omega
          have hs16I : (s : Int) < 16 := by omega
          clear hi ho hxb hxe
          gi_wp2_with fail
          refine wpIn_wide.2 ?_
          go_region_held3 (fun wy => wy.cell? ⟨pt, 0, none⟩ = some (.pointer (some ⟨bn, 0, none⟩)) ∧ wy.cell? ⟨bn, 1 + s, none⟩ = some (.int .u32 ((M s : Nat) : Int)) ∧ wy.cell? ⟨bn, 1 + x, none⟩ = some (.int .u32 ((M x : Nat) : Int))) (first | exact ⟨kb, kms, kmx⟩ | with_reducible exact KS.out _ (Below.refl _ _).drew | with_reducible exact KS.out _ HB6.out)
            (first
              | (go_at_call 117; refine (list_any (clrM (M s) (M x)) _ (clrM_lt _ (hM s))).mono ?_; rintro e w6 ⟨n6, a6, c6, rfl, ho6, hb6⟩; have HB6 : Hid (Below wx.heap.size wx w6) := (Below.refl _ _).drew.trans (hb6.mono (Nat.le_refl _)); have HO6r := Lib.hid ho6; have HZ6 : Hid (wx.heap.size ≤ wx.drew.heap.size) := Nat.le_refl _; obtain ⟨a6', c6', e6⟩ := ho6.row.slice; simp only [Value.slice.injEq] at e6; obtain ⟨rfl, rfl, rfl⟩ := e6; clear ho6 hb6))
          all_goals (
            have hls2 := listM_len (clrM (M s) (M x))
            obtain ⟨Y, hY'⟩ : ∃ Y, Y = listM (clrM (M s) (M x)) := ⟨_, rfl⟩
            have HYE := Lib.hid hY'
            rw [← hY'] at hls2 HO6r ⊢
            have HO6 : Hid (OwnRow 2 w6 W.heap.size (.slice a6 Y.length c6) Y) := HO6r.out.mono (Nat.le_trans hzx HZ6.out)
            have HI6 := Lib.hid (HI.out.keep HB6.out)
            have HO5 := Lib.hid (HO.out.keep HB6.out)
            have HJ6 := Lib.hid (HJ.out _ _ _ HJQ.out HB6.out)
            have hz6 : W.heap.size ≤ w6.heap.size := Nat.le_trans hzx HB6.out.size
            have HYM : Hid (∀ i, i < Y.length → ∃ y : Nat, y < 16 ∧ (y : Int) = nth Y i) := fun i hi => by
              rw [hY'] at hi ⊢
              obtain ⟨y, h1, _, h3⟩ := (listM_mem _ _).1 (nth_mem hi)
              exact ⟨y, h1, h3⟩
            clear hY' HO6r HZ6 HB6 HI HO HJQ KS hbits kb kms kmx hcq
            gi_wp2_with fail
            gi_loopw [42] (fun rv wy => ∃ r : Nat, r ≤ Y.length ∧ rv = .int .i64 r ∧ BendIn wy c pt bn n M ∧ OwnRow 2 wy W.heap.size (.slice (some ⟨g, 0, none⟩) (listM (M s)).length c5) (listM (M s)) ∧ OwnRow 2 wy W.heap.size (.slice a6 Y.length c6) Y ∧ J (bU M s ++ bV M s q ++ bW M s x r) wy ∧ W.heap.size ≤ wy.heap.size) (fun rv _ => Y.length - (intOf rv).toNat)
            case atStart => exact ⟨0, Nat.zero_le _, rfl, HI6.out, HO5.out, HO6.out, by rw [bW_zero, List.append_nil]; exact HJ6.out, hz6⟩
            case round =>
              rename World => wy
              obtain ⟨r, hr, rfl, hi, ho, ho', hj, hzy⟩ := hrel
              have HI := Lib.hid hi
              have HO := Lib.hid ho
              have HO' := Lib.hid ho'
              have HJQ := Lib.hid hj
              clear hj HI6 HO5 HO6 HJ6 hz6 hi ho
              by_cases hrl : r < Y.length
              · obtain ⟨g2, cap2, e7, hgB2, hgl2, hc12, hc22⟩ := ho'.posB (by omega)
                simp only [Value.slice.injEq, true_and] at e7
                obtain ⟨rfl, rfl⟩ := e7
                obtain ⟨y, hy16, hye⟩ := HYM.out r hrl
                have hcr := ho'.cells' r hrl
                rw [← hye] at hcr
                have HYN := Lib.hid hye
                clear ho' hye
                by_cases hxy : (x : Int) < (y : Int)
                · have HBW : Hid (bW M s x (r + 1) = bW M s x r ++ [(s, x, y)]) := by
                    show _ = _
                    have h1 : r < (listM (clrM (M s) (M x))).length := by rw [← HYE.out]; exact hrl
                    have h2 : nth (listM (clrM (M s) (M x))) r = (y : Int) := by rw [← HYE.out]; exact HYN.out.symm
                    rw [bW_yes h1 (by rw [h2]; exact hxy), h2, Int.toNat_natCast]
                  obtain ⟨fn, tmps, assign, body, hy, hR⟩ := HY.out _ (s, x, y) wy HJQ.out (by
                    have h1 := bend_pre (r := r + 1) hM hsn hql
                    rw [← HXE.out, Int.toNat_natCast, HBW.out, ← List.append_assoc] at h1
                    exact h1)
                  simp only [encT] at hy
                  have HR7 := Lib.hid hR
                  clear hR
                  gi_wp2
                  refine ⟨fun h => (by cases h), HR7.out.mono ?_⟩
                  rintro e W3 (⟨rfl, hJ3, hk3⟩ | ⟨rfl, hJx3⟩)
                  · have HJ3 := Lib.hid hJ3
                    have HK3 := Lib.hid hk3
                    clear hJ3 hk3 hcr hy
                    gi_wp2
                    go_roundw
                    case rel => exact ⟨r + 1, by omega, by go_num, HI.out.kpB HK3.out, HO.out.kpB (by omega) HK3.out, HO'.out.kpB (by omega) HK3.out, by rw [HBW.out, ← List.append_assoc]; exact HJ3.out, Nat.le_trans hzy HK3.out.size⟩
                    case measure => simp [intOf]; omega
                  · have HX3 := Lib.hid hJx3
                    clear hJx3 hcr hy
                    gi_wp2
                    refine bodyPost_ret (results_none rfl _ _ _) rfl ?_
                    exact ⟨⟨_, rfl⟩, .inr ⟨_, HX3.out⟩⟩
                · have HBW : Hid (bW M s x (r + 1) = bW M s x r) := by
                    show _ = _
                    have h1 : r < (listM (clrM (M s) (M x))).length := by rw [← HYE.out]; exact hrl
                    have h2 : nth (listM (clrM (M s) (M x))) r = (y : Int) := by rw [← HYE.out]; exact HYN.out.symm
                    rw [bW_no h1 (by rw [h2]; exact hxy)]
                  gi_wp2
                  refine ⟨fun f h => (by cases h), ?_⟩
                  go_at_K
                  gi_wp2
                  go_roundw
                  case rel => exact ⟨r + 1, by omega, by go_num, HI.out, HO.out, HO'.out, by rw [HBW.out]; exact HJQ.out, hzy⟩
                  case measure => simp [intOf]; omega
              · obtain rfl : r = Y.length := by omega
                have HJE : Hid (J (bU M s ++ bV M s (q + 1)) wy) := by
                  show J _ _
                  have h1 := HJQ.out
                  rw [bW_all (by rw [← HYE.out]; exact Nat.le_refl _)] at h1
                  rw [bV_succ hql, ← HXE.out, Int.toNat_natCast, ← List.append_assoc]
                  exact h1
                clear ho'
                gi_wp2
                go_roundw
                case rel => exact ⟨q + 1, by omega, by go_num, HI.out, HO.out, HJE.out, hzy⟩
                case measure => simp [intOf]; omega)
        · obtain rfl : q = (listM (M s)).length := by omega
          have HJE : Hid (J (bU M (s + 1)) wx) := by
            show J _ _
            have h1 := HJQ.out
            rw [bV_all (Nat.le_refl _)] at h1
            rw [bU_succ]
            exact h1
          clear hi ho
          gi_wp2
          go_roundw
          case rel => exact ⟨s + 1, by omega, by go_num, HI.out, HJE.out, hzx⟩
          case measure => simp [intOf]; omega
    · obtain rfl : s = n := by omega
      clear hi
      gi_wp2
      go_end0
      exact ⟨⟨_, rfl⟩, .inl ⟨_, bU_eq hM s, HJR.out⟩⟩

end Go.Proofs.YtohjfcfcopbmoaaGreatDoor
