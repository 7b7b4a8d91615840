/- The texts TL1, TL2, TL3, TL4, TR2, joined. -/
import Derived.Test.YtgeifbgjfbfcfaaCN8
import Derived.Test.YtgeifbgjfbfcfaaQRT1
import Derived.Test.YtgeifbgjfbfcfaaQMark
import Derived.Test.YtgeifbgjfbfcfaaByteLay
import Derived.Test.YtgeifbgjfbfcfaaQTS1
import Derived.Lib.Bytealg
import Derived.Test.YtgeifbgjfbfcfaaRR1
import Derived.Test.YtgeifbgjfbfcfaaQU2
import Derived.Test.YtgeifbgjfbfcfaaQC1
import Derived.Test.YtgeifbgjfbfcfaaX4

/- A law of loops over an iterator that hands out texts and keeps what is left in a box that was made before it began. No statement of the program. -/
namespace Go.Proofs.Ytgeifbgjfbfcfaa
open Go.RowKit Go.Shelf

/-- Two blocks may have turned, new ones may have come; nothing else. -/
structure TwoB (b c : Nat) (A B : World) : Prop where
  os : B.os = A.os
  tape : B.tape = A.tape
  output : B.output = A.output
  size : A.heap.size ≤ B.heap.size
  other : ∀ j, j < A.heap.size → j ≠ b → j ≠ c → B.heap[j]? = A.heap[j]?
theorem TwoB.ofBelow {b c : Nat} {A B : World} (h : Below A.heap.size A B) : TwoB b c A B := ⟨h.os, h.tape, h.output, h.size, fun j hj _ _ => h.block j hj⟩
theorem TwoB.ofTouched {b c : Nat} {A B : World} (h : Touched b (b + 1) A B) : TwoB b c A B := ⟨h.os, h.tape, h.output, h.size, fun j hj h1 _ => h.other j hj (by omega)⟩
theorem TwoB.put {b c : Nat} (A : World) (o : Obj) : TwoB b c A (A.putObj c o) := ⟨rfl, rfl, rfl, by simp, fun j _ _ h => World.putObj_heap_other h⟩

/-- What an iterator promises that hands out texts, one after another, and keeps what is left in the box bs, made before it began. -/
def SeqTch (F : Fence) (n : Nat) (P : Program) (g : Nat) (lb : Array Value) (T : Nat → Prop) (bs : Nat) (Z : List (List UInt8)) (w : World) : Prop :=
  ∀ (l : Nat) (J Jx : List (List UInt8) → World → Prop) (W : World), Below w.heap.size w W → w.heap.size ≤ l → l < W.heap.size →
    (∀ s A B, J s A → Touched bs (bs + 1) A B → J s B) →
    (∀ pre x W1, J pre W1 → W.heap.size ≤ W1.heap.size → (pre ++ [x]) <+: Z → YieldAt F (n - 1) P l #[.string (bsL x)] W1 fun e W' =>
      (e = .returned (.bool true) ∧ J (pre ++ [x]) W' ∧ KeepsBut (fun k => T k ∨ k = l) W1 W') ∨ (e = .returned (.bool false) ∧ Jx (pre ++ [x]) W' ∧ KeepsBut (fun k => k < w.heap.size ∨ k = l) W1 W')) →
    J [] W →
    CallsIn F n P g (#[.func (.yield l) #[] #[]] ++ lb) W fun e W' => (∃ v, e = .returned v) ∧ (J Z W' ∨ (∃ pre, pre <+: Z ∧ pre ≠ [] ∧ Jx pre W'))

variable {F : Fence} {n : Nat} {P : Program}

theorem wpIn_rangeFunc_tch {g : Operand} {ps : Array Tmp} {assign body : Code} {Q : Exit → Act → World → Prop} {a : Act} {w : World}
    (hro : F.round = none) (h1 : 1 ≤ n) {gf : Nat} {lb : Array Value} (hg : a.eval g = .func (.func gf) #[] lb) (hFg : F.fn gf) (eg : ∀ args w, (callFunc gf args).run P w = .ok (.enter gf args) w)
    {T : Nat → Prop} {bs : Nat} {Z : List (List UInt8)} (hseq : SeqTch F (n - 1) P gf lb T bs Z w) (hbs : bs < w.heap.size)
    (hT : ∀ k, T k → k ≠ w.heap.size ∧ k ≠ w.heap.size + 1) (hps : ps.size = 1)
    (I : List (List UInt8) → World → Prop) (Ix : Code → List (List UInt8) → World → Prop) (hI : ∀ s A B, I s A → TwoB bs (w.heap.size + 1) A B → I s B) (hIx : ∀ c s A r o, Ix c s A → A.heap[w.heap.size + 1]? = some (.loop r) → Ix c s (A.putObj (w.heap.size + 1) o)) (h0 : I [] w) (a₁ : List UInt8 → Act)
    (hassign : ∀ (l : Nat) (x : List UInt8) (W : World) (K : Act → World → Prop), K (a₁ x) W →
      assign.wpIn (F.inRound l) (n - 1 - 1) P (Exit.then K (fun _ _ _ => False)) { tmps := (ps.zip #[.string (bsL x)]).foldl (fun t (p, v) => t.setIfInBounds p v) a.tmps, defers := [] } W)
    (hbody : ∀ (l : Nat) (pre : List (List UInt8)) (x : List UInt8) (W : World), I pre W → w.heap.size + 2 ≤ W.heap.size → (pre ++ [x]) <+: Z → body.wpIn (F.inRound l) (n - 1 - 1) P (visPost w.heap.size T I Ix (pre ++ [x]) W) (a₁ x) W)
    (hdone : ∀ (D : Nat) (W : World), I Z W → w.heap.size ≤ D → W.heap[D]? = some (.deferred (some [])) → Q .normal { a with defers := { target := .collected D, args := #[] } :: a.defers } W)
    (hstop : ∀ (D : Nat) (c : Code) (pre : List (List UInt8)) (W : World), pre <+: Z → pre ≠ [] → Ix c pre W → w.heap.size ≤ D → W.heap[D]? = some (.deferred (some [])) → c.wpIn F n P Q { a with defers := { target := .collected D, args := #[] } :: a.defers } W) :
    (Code.rangeFunc g ps assign body).wpIn F n P Q a w := by
  refine wpIn_rangeFunc ?_
  intro fn hfn
  rw [hro]
  obtain ⟨rec, hrec⟩ : ∃ rec : LoopState → Option Code → Loop, rec = fun st pe => { state := st, pending := pe, fn, tmps := a.tmps, params := ps, assign, body, defers := w.heap.size } := ⟨_, rfl⟩
  obtain ⟨W1, hW1⟩ : ∃ W1, (w.alloc (.deferred (some []))).alloc (.loop (rec .ready none)) = W1 := ⟨_, rfl⟩
  have hL1 : W1.heap[w.heap.size + 1]? = some (.loop (rec .ready none)) := by
    rw [← hW1]; have := World.alloc_heap_new (w.alloc (.deferred (some []))) (.loop (rec .ready none)); rwa [World.size_alloc] at this
  have hK1 : W1.heap[w.heap.size]? = some (.deferred (some [])) := by
    rw [← hW1]; exact (Below.heap_alloc _ _ _ (by simp)).trans (World.alloc_heap_new w _)
  have hb1 : Below w.heap.size w W1 := by
    rw [← hW1]; exact ((Below.refl _ w).alloc (Nat.le_refl _) _).alloc (by simp) _
  have hI1 : I [] W1 := hI _ _ _ h0 (TwoB.ofBelow hb1)
  have hsz1 : W1.heap.size = w.heap.size + 2 := by rw [← hW1]; simp
  refine ⟨w.heap.size + 1, [{ target := .collected w.heap.size, args := #[] }], W1, { target := .fn (.func gf) lb, args := #[.func (.yield (w.heap.size + 1)) #[] #[]] }, W1, gf,
    #[.func (.yield (w.heap.size + 1)) #[] #[]] ++ lb, W1, ?_, ?_, ?_, ?_, fun _ => h1, ?_⟩
  · rw [← hW1, hrec]; exact run_enterLoop_outer _ _ _ _ _
  · simp only [resolve, hg]
    simp [go_sem]
  · intro f' hf'; simp [Target.leads] at hf'; subst hf'; exact hFg
  · simp [invoke, go_sem, eg]
  · refine (hseq (w.heap.size + 1)
      (fun pre W => I pre W ∧ W.heap[w.heap.size + 1]? = some (.loop (rec .ready none)) ∧ W.heap[w.heap.size]? = some (.deferred (some [])))
      (fun pre W => ∃ c, Ix c pre W ∧ W.heap[w.heap.size + 1]? = some (.loop (rec .done (some c))) ∧ W.heap[w.heap.size]? = some (.deferred (some [])))
      W1 hb1 (by omega) (by omega)
      (fun s A B hs hb => ⟨hI s A B hs.1 (TwoB.ofTouched hb), (hb.other _ (Array.getElem?_eq_some_iff.1 hs.2.1).1 (by omega)).trans hs.2.1, (hb.other _ (Array.getElem?_eq_some_iff.1 hs.2.2).1 (by omega)).trans hs.2.2⟩)
      ?_ ⟨hI1, hL1, hK1⟩).mono ?_
    · -- one round
      rintro pre x W ⟨hi, hl, hk⟩ hsz hpx
      have hlt : w.heap.size + 1 < W.heap.size := (Array.getElem?_eq_some_iff.1 hl).1
      have hy := run_yield (P := P) (args := #[.string (bsL x)]) hl (by rw [hrec]; exact hps.symm)
      rw [hrec] at hy
      refine ⟨fn, _, assign, body, hy, roundIn_of_wpIn hfn (hassign _ x W _ ⟨_, run_beginRound hl (by rw [hrec]), ?_⟩)⟩
      have hl2 : (W.putObj (w.heap.size + 1) (.loop { rec .ready none with state := .busy })).heap[w.heap.size + 1]? = some (.loop { rec .ready none with state := .busy }) := World.putObj_heap_same hlt
      have hk2 : (W.putObj (w.heap.size + 1) (.loop { rec .ready none with state := .busy })).heap[w.heap.size]? = some (.deferred (some [])) := (World.putObj_heap_other (by omega)).trans hk
      have hsz2 : (W.putObj (w.heap.size + 1) (.loop { rec .ready none with state := .busy })).heap.size = W.heap.size := by simp
      refine wpIn_mono (hbody _ pre x _ (hI _ _ _ hi (TwoB.put W _)) (by rw [hsz2]; omega) hpx) ?_
      have fin : ∀ (jump : Option Code) (W3 : World), KeepsBut (fun k => k ≠ w.heap.size ∧ k ≠ w.heap.size + 1) (W.putObj (w.heap.size + 1) (.loop { rec .ready none with state := .busy })) W3 →
          (Instr.endRound (w.heap.size + 1) jump).run P W3 = .ok (.bool jump.isNone) (W3.putObj (w.heap.size + 1) (.loop (rec (if jump.isNone then .ready else .done) jump))) ∧
          W3.heap[w.heap.size + 1]? = some (.loop { rec .ready none with state := .busy }) ∧
          (W3.putObj (w.heap.size + 1) (.loop (rec (if jump.isNone then .ready else .done) jump))).heap[w.heap.size + 1]? = some (.loop (rec (if jump.isNone then .ready else .done) jump)) ∧
          (W3.putObj (w.heap.size + 1) (.loop (rec (if jump.isNone then .ready else .done) jump))).heap[w.heap.size]? = some (.deferred (some [])) := fun jump W3 hk3 => by
        have hl3 := (hk3.2 _ (by rw [hsz2]; omega) (by omega)).trans hl2
        have := run_endRound (P := P) jump hl3
        rw [hrec] at this ⊢
        exact ⟨this, by rw [hrec] at hl3; exact hl3, World.putObj_heap_same (Array.getElem?_eq_some_iff.1 hl3).1, (World.putObj_heap_other (by omega)).trans ((hk3.2 _ (by rw [hsz2]; omega) (by omega)).trans hk2)⟩
      rintro e a3 W3 hp
      have close : ∀ {I' : World → Prop} (jump : Option Code), (∀ A B, I' A → TwoB bs (w.heap.size + 1) A B → I' B) → I' W3 → W3.heap[w.heap.size + 1]? = some (.loop { rec .ready none with state := .busy }) → I' (W3.putObj (w.heap.size + 1) (.loop (rec (if jump.isNone then .ready else .done) jump))) :=
        fun jump hI' hi' hl' => hI' _ _ hi' (TwoB.put W3 _)
      cases e with
      | normal =>
        obtain ⟨hk3, hi3⟩ := hp
        obtain ⟨hr, hl3, hl4, hk4⟩ := fin none W3 (hk3.mono hT)
        exact ⟨_, _, hr, .inl ⟨rfl, ⟨close none (hI _) hi3 hl3, hl4, hk4⟩, ((KeepsBut.putObj W _ _ (Or.inr rfl)).trans (hk3.mono (fun k hk => Or.inl hk))).trans (KeepsBut.putObj W3 _ _ (Or.inr rfl))⟩⟩
      | ret =>
        obtain ⟨hk3, hi3⟩ := hp
        obtain ⟨hr, hl3, hl4, hk4⟩ := fin (some .ret) W3 (hk3.mono (fun k hk => ⟨by omega, by omega⟩))
        exact ⟨_, _, hr, .inr ⟨rfl, ⟨.ret, hIx _ _ _ _ _ hi3 hl3, hl4, hk4⟩, ((KeepsBut.putObj W _ _ (Or.inr rfl)).trans (hk3.mono (fun k hk => Or.inl hk))).trans (KeepsBut.putObj W3 _ _ (Or.inr rfl))⟩⟩
      | exit id =>
        obtain ⟨hk3, hi3⟩ := hp
        obtain ⟨hr, hl3, hl4, hk4⟩ := fin (some (.exit id)) W3 (hk3.mono (fun k hk => ⟨by omega, by omega⟩))
        exact ⟨_, _, hr, .inr ⟨rfl, ⟨.exit id, hIx _ _ _ _ _ hi3 hl3, hl4, hk4⟩, ((KeepsBut.putObj W _ _ (Or.inr rfl)).trans (hk3.mono (fun k hk => Or.inl hk))).trans (KeepsBut.putObj W3 _ _ (Or.inr rfl))⟩⟩
      | goto t =>
        obtain ⟨hk3, hi3⟩ := hp
        obtain ⟨hr, hl3, hl4, hk4⟩ := fin (some (.goto t)) W3 (hk3.mono (fun k hk => ⟨by omega, by omega⟩))
        exact ⟨_, _, hr, .inr ⟨rfl, ⟨.goto t, hIx _ _ _ _ _ hi3 hl3, hl4, hk4⟩, ((KeepsBut.putObj W _ _ (Or.inr rfl)).trans (hk3.mono (fun k hk => Or.inl hk))).trans (KeepsBut.putObj W3 _ _ (Or.inr rfl))⟩⟩
      | panic ch => exact hp.elim
      | outgrown => exact hp.elim
    · -- behind the iterator
      rintro e W2 ⟨⟨v, rfl⟩, (⟨hi, hl, hk⟩ | ⟨pre, hSp, hne, c, hi, hl, hk⟩)⟩
      · exact ⟨none, _, by have := run_endLoop (P := P) hl (by rw [hrec]; simp); rw [hrec] at this; exact this, hdone _ _ (hI _ _ _ hi (TwoB.put W2 _)) (Nat.le_refl _) ((World.putObj_heap_other (by omega)).trans hk)⟩
      · exact ⟨some c, _, by have := run_endLoop (P := P) hl (by rw [hrec]; simp); rw [hrec] at this; exact this, hstop _ c pre _ hSp hne (hIx _ _ _ _ _ hi hl) (Nat.le_refl _) ((World.putObj_heap_other (by omega)).trans hk)⟩

end Go.Proofs.Ytgeifbgjfbfcfaa

/- The lines of a text, one after another; walks: onesOf. -/
namespace Go.Proofs.Ytgeifbgjfbfcfaa
open Go.RowKit Go.Shelf
attribute [local go_sem] Oper.semAt_some

theorem idx_spec (c : UInt8) : ∀ l : List UInt8, (Lib.indexByte l c = -1 ∧ c ∉ l) ∨ ∃ p t, l = p ++ c :: t ∧ c ∉ p ∧ Lib.indexByte l c = (p.length : Int) := by
  intro l
  induction l with
  | nil => exact .inl ⟨rfl, by simp⟩
  | cons b l ih =>
    by_cases h : b = c
    · subst h
      exact .inr ⟨[], l, rfl, by simp, by simp [Lib.indexByte]⟩
    · have hb : (b == c) = false := by simpa using h
      rcases ih with ⟨h1, h2⟩ | ⟨p, t, h1, h2, h3⟩
      · refine .inl ⟨?_, by rw [List.mem_cons, not_or]; exact ⟨fun e => h e.symm, h2⟩⟩
        simp [Lib.indexByte, hb, h1]
      · refine .inr ⟨b :: p, t, by rw [h1]; rfl, by rw [List.mem_cons, not_or]; exact ⟨fun e => h e.symm, h2⟩, ?_⟩
        have hne : ((p.length : Int) == -1) = false := by rw [beq_eq_false_iff_ne]; omega
        simp [Lib.indexByte, hb, h3, hne]
/-- The lines with their ends. -/
def linesOf : List (List UInt8) → List (List UInt8)
  | [] => []
  | [x] => if x = [] then [] else [x]
  | x :: y :: t => (x ++ [10]) :: linesOf (y :: t)
def linesL (s : List UInt8) : List (List UInt8) := linesOf (splitL 10 s)
theorem linesL_nil : linesL [] = [] := rfl
theorem linesL_mark {p t : List UInt8} (h : (10 : UInt8) ∉ p) : linesL (p ++ 10 :: t) = (p ++ [10]) :: linesL t := by
  unfold linesL
  rw [splitL_mark 10 p t h]
  have hl := (splitL_len 10 t).2
  match hs : splitL 10 t with
  | [] => rw [hs] at hl; simp at hl
  | y :: r => rfl
theorem linesL_last {p : List UInt8} (h : (10 : UInt8) ∉ p) (hp : p ≠ []) : linesL p = [p] := by
  unfold linesL
  rw [splitL_one 10 p h]
  simp [linesOf, hp]

set_option maxHeartbeats 2000000 in
set_option maxRecDepth 100000 in
theorem onesOf_any (Y : List UInt8) (w : World) (hY : Y.length ≤ 1048576) : Calls Try.prog 65 #[.string (bsL Y)] w (GaveRow w (onesL Y)) := by
  obtain ⟨j0, hj, hy0, hy1, hy2⟩ := info_parts Try.infoI
  have hyz := bsL_size Y
  go_enter Try.func65, Try.ntmps65
  go_wp2_with fail
  go_loopw [3, 8] (fun rv uv wx => ∃ j : Nat, j ≤ Y.length ∧ uv = .int .i64 j ∧ OwnRow 2 wx w.heap.size rv (onesTo Y j) ∧ Below w.heap.size w wx) (fun _ uv _ => Y.length - (intOf uv).toNat)
  case atStart => exact ⟨0, Nat.zero_le _, rfl, empty_own w _ (Nat.le_refl _), (Below.refl _ _).alloc (Nat.le_refl _) _⟩
  case round =>
    rename World => wx
    obtain ⟨j, hj2, rfl, hor, hbx⟩ := hrel
    obtain ⟨ar, cr, er⟩ := hor.row.slice
    subst er
    have holen := onesTo_len Y j
    have HOR := Lib.hid hor
    have HBX := Lib.hid hbx
    have hzx : w.heap.size ≤ wx.heap.size := hbx.size
    clear hor hbx
    by_cases hjl : j < Y.length
    · have hjI : (j : Int) < (Y.length : Int) := by omega
      have hix : ∀ w, (Instr.index 9 (.string (bsL Y)) (.int .i64 (j : Int))).run Try.prog w = .ok (.int .u8 (Y[j].toNat : Int)) w := fun w => idx_bytes Y j hjl w
      have HI64 : Hid (∀ x ∈ onesTo Y (j + 1), I64 x) := onesTo_i64 Y (j + 1) (by omega)
      have HGET : Hid (Y[j]? = some Y[j]) := List.getElem?_eq_getElem hjl
      obtain ⟨y, hy⟩ : ∃ y, Y[j] = y := ⟨_, rfl⟩
      rw [hy] at hix HGET
      clear hy
      have HST : Hid (onesTo Y (j + 1) = if y = 49 then onesTo Y j ++ [(j : Int)] else onesTo Y j) := by
        show _ = _
        rw [onesTo, HGET.out]
        simp
      obtain ⟨O, hO⟩ : ∃ O, onesTo Y j = O := ⟨_, rfl⟩
      rw [hO] at HOR HST holen ⊢
      clear hO
      by_cases he : y = 49
      · subst he
        rw [if_pos rfl] at HST
        have q2 : (((49 : UInt8).toNat : Int) == 49) = true := rfl
        go_wp2_with (at_builtin; refine wpList_append_own _ rfl (.tmp 15) (.tmp 17) 29 rfl w.heap.size 2 j0 (.int .i64 0) 1 8 Try.underlying29 hj hy0 hy1 hy2 rfl (by decide) _ _ _ rfl (HOR.out.owns.alloc _) ⟨wx.heap.size, 0, none⟩ 1 1 [.int .i64 (j : Int)] rfl rfl (lit1 _ _ _) (one1 _) (by unfold maxLen; omega) (by omega) (by simp; omega) ?_; intro v6 w6 hown6 hgrow6 _; have HO6 : Hid (OwnRow 2 w6 w.heap.size v6 (onesTo Y (j + 1))) := (by have hh := HI64.out; show OwnRow _ _ _ _ _; rw [HST.out] at hh ⊢; exact OwnRow.of_ownsRow (n := O.length + 1) (by simpa using hown6) (by simp; unfold maxLen; omega) hh); have HB6 : Hid (Below w.heap.size w w6) := (HBX.out.alloc hzx _).grown hgrow6 (by simp; omega) (fun j hj => (HOR.out.lt j hj).1); clear hown6 hgrow6)
        go_roundw
        case rel => exact ⟨j + 1, by omega, by go_num, HO6.out, HB6.out⟩
        case measure => simp [intOf]; omega
      · rw [if_neg he] at HST
        have q2 : ((y.toNat : Int) == 49) = false := by rw [beq_eq_false_iff_ne]; exact fun e => he (UInt8.toNat_inj.1 (by have : (49 : UInt8).toNat = 49 := rfl; omega))
        go_wp2
        go_roundw
        case rel => exact ⟨j + 1, by omega, by go_num, by rw [HST.out]; exact HOR.out, HBX.out⟩
        case measure => simp [intOf]; omega
    · obtain rfl : j = Y.length := by omega
      have HF : Hid (GaveRow w (onesL Y) (.returned (.slice ar (onesTo Y Y.length).length cr)) wx) := ⟨_, _, _, rfl, HOR.out, HBX.out⟩
      go_wp2
      go_ret
      exact HF.out

end Go.Proofs.Ytgeifbgjfbfcfaa

/- Walks: the library's iterator over the lines of a text. -/
namespace Go.Proofs.Ytgeifbgjfbfcfaa
open Go.RowKit Go.Shelf
attribute [local go_sem] Oper.semAt_some

/-- How long the string in a cell is. -/
def cellN : Option Value → Nat
  | some (.string b) => b.size
  | _ => 0
theorem touched_set (W : World) (b : Nat) (v : Value) : Touched b (b + 1) W (W.setCell ⟨b, 0, none⟩ v) := ⟨rfl, rfl, rfl, by rw [size_setCell1]; exact Nat.le_refl _, fun j _ h => heap_setCell_other _ _ _ _ (by show j ≠ b; omega)⟩

set_option maxHeartbeats 4000000 in
set_option maxRecDepth 100000 in
theorem lines1_seq (m : Nat) (T : Nat → Prop) (bs : Nat) (s : List UInt8) (w : World) (hs : s.length ≤ 1048576) (hbx : BoxAt w bs (.string (bsL s))) (hT : ¬ T bs) :
    SeqTch Fence.wide m Try.prog 99 #[.pointer (some ⟨bs, 0, none⟩)] T bs (linesL s) w := by
  intro l J Jx W hW hlw hlW hJ hY h0
  have hbl := hbx.lt
  have HBX0 := Lib.hid (hbx.keep hW)
  have HJ := Lib.hid hJ
  have HY := Lib.hid hY
  have H0 := Lib.hid h0
  have HKB : Hid (∀ A B v, BoxAt A bs v → KeepsBut (fun k => T k ∨ k = l) A B → BoxAt B bs v) := fun A B v h hk => ⟨hk.cell (a := ⟨bs, 0, none⟩) (fun h => by rcases h with h | h; exact hT h; simp only at h; omega) h.1, by
    have := hk.2 bs h.lt (fun h => by rcases h with h | h; exact hT h; omega)
    rw [← h.2]
    simp only [World.frozen?, this]⟩
  clear hbx hJ hY h0 hW hT
  refine callsIn_of_wp Try.func99 rfl trivial ?_ rfl
  simp only [Try.ntmps99, List.size_toArray, List.length_cons, List.length_nil, Nat.reduceAdd, Nat.reduceSub, Array.replicate_succ, Array.replicate_zero, List.push_toArray, List.append_toArray, List.nil_append, List.cons_append]
  gi_wp2_with fail
  gi_loopw [4] (fun _ wr => ∃ (pre : List (List UInt8)) (r : List UInt8), BoxAt wr bs (.string (bsL r)) ∧ pre ++ linesL r = linesL s ∧ r.length ≤ 1048576 ∧ J pre wr ∧ W.heap.size ≤ wr.heap.size) (fun _ wr => cellN (wr.cell? ⟨bs, 0, none⟩))
  case atStart => exact ⟨[], s, HBX0.out, rfl, hs, H0.out, Nat.le_refl _⟩
  case round =>
    obtain ⟨pre, r, hbx, heq, hrl, hj, hsz⟩ := hrel
    have HBX := Lib.hid hbx
    have HEQ := Lib.hid heq
    have HJR := Lib.hid hj
    have kb := hbx.1
    have kf := hbx.2
    have hrz := bsL_size r
    have HME : Hid (cellN (wr.cell? ⟨bs, 0, none⟩) = r.length) := by show _ = _; rw [kb]; exact hrz
    clear hbx heq hj HBX0 H0
    by_cases hr0 : r.length = 0
    · obtain rfl : r = [] := List.length_eq_zero_iff.1 hr0
      have HE : Hid (pre = linesL s) := by have := HEQ.out; rw [linesL_nil, List.append_nil] at this; exact this
      have q0 : ¬ (0 : Int) < (([] : List UInt8).length : Int) := by simp
      clear hr0
      gi_wp2
      go_end0
      exact ⟨⟨_, rfl⟩, .inl (by rw [← HE.out]; exact HJR.out)⟩
    · have q0 : (0 : Int) < (r.length : Int) := by omega
      have HIB := Lib.hid (Try.strings_IndexByte (bsL r) 10 wr)
      rw [show (bsL r).data.toList = r by simp [bsL], show (10 : Int).toNat.toUInt8 = 10 from rfl] at HIB
      rcases idx_spec 10 r with ⟨hi1, hi2⟩ | ⟨p, t, hp1, hp2, hp3⟩
      · rw [hi1] at HIB
        have hne : r ≠ [] := fun e => hr0 (by rw [e]; rfl)
        have HLR := Lib.hid (linesL_last hi2 hne)
        have HNL : Hid (([] : List UInt8).length ≤ 1048576 ∧ ([] : List UInt8).length < r.length) := ⟨by simp, by simp; omega⟩
        have HPF : Hid ((pre ++ [r]) <+: linesL s) := ⟨linesL ([]), by rw [List.append_assoc, ← HEQ.out, HLR.out]; simp [linesL_nil]⟩
        have HBS : Hid (BoxAt (wr.setCell ⟨bs, 0, none⟩ (.string { data := #[] })) bs (.string (bsL ([])))) := HBX.out.set (.string (bsL ([])))
        have hsWa : W.heap.size ≤ (wr.setCell ⟨bs, 0, none⟩ (.string { data := #[] })).heap.size := by rw [size_setCell1]; exact hsz
        have HJS : Hid (J pre (wr.setCell ⟨bs, 0, none⟩ (.string { data := #[] }))) := HJ.out _ _ _ HJR.out (touched_set wr bs _)
        obtain ⟨fn, tmps, assign, body, hy, hR⟩ := HY.out pre (r) (wr.setCell ⟨bs, 0, none⟩ (.string { data := #[] })) HJS.out hsWa HPF.out
        have HR7 := Lib.hid hR
        clear hR
        clear hi1 hi2 hne
        gi_wp2_with fail
        refine ⟨trivial, fun h => (by cases h), ?_⟩
        refine (callsIn_wide.2 HIB.out).mono ?_
        rintro e w' ⟨rfl, rfl⟩
        gi_wp2
        refine ⟨fun h => (by cases h), HR7.out.mono ?_⟩
        rintro e W3 (⟨rfl, hJ3, hk3⟩ | ⟨rfl, hJx3, -⟩)
        · have HJ3 := Lib.hid hJ3
          have HB3 := Lib.hid (HKB.out _ _ _ HBS.out hk3)
          have hsz3 : W.heap.size ≤ W3.heap.size := Nat.le_trans hsWa hk3.1
          clear hJ3 hk3 hy
          gi_wp2
          go_roundw
          case rel => exact ⟨pre ++ [r], [], HB3.out, by rw [List.append_assoc, ← HEQ.out, HLR.out]; simp [linesL_nil], HNL.out.1, HJ3.out, hsz3⟩
          case measure =>
            rw [HME.out, HB3.out.1]
            show (bsL ([])).size < _
            rw [bsL_size]
            exact HNL.out.2
        · have HX3 := Lib.hid hJx3
          clear hJx3 hy
          gi_wp2
          refine bodyPost_ret (results_none rfl _ _ _) rfl ?_
          exact ⟨⟨_, rfl⟩, .inr ⟨_, HPF.out, by simp, HX3.out⟩⟩
      · rw [hp3] at HIB
        have HLR : Hid (linesL r = (p ++ [10]) :: linesL t) := by show _ = _; rw [hp1]; exact linesL_mark hp2
        have hlen : r.length = p.length + 1 + t.length := by rw [hp1]; simp; omega
        have HNL : Hid (t.length ≤ 1048576 ∧ t.length < r.length) := ⟨by omega, by omega⟩
        have hex1 : (bsL r).extract 0 (p.length + 1) = bsL (p ++ [10]) := by
          rw [bsL_cut, hp1, show p ++ 10 :: t = (p ++ [10]) ++ t by simp]
          exact congrArg bsL (List.take_left' (by simp))
        have hex2 : (bsL r).extract (p.length + 1) r.length = bsL t := by
          rw [bsL_cut, hp1, show p ++ 10 :: t = (p ++ [10]) ++ t by simp, List.drop_left' (by simp)]
          exact congrArg bsL (List.take_of_length_le (by simp; omega))
        have hle : (p.length : Int) + 1 ≤ (r.length : Int) := by omega
        have hge : (0 : Int) ≤ (p.length : Int) := by omega
        have HPF : Hid ((pre ++ [p ++ [10]]) <+: linesL s) := ⟨linesL t, by rw [List.append_assoc, ← HEQ.out, HLR.out]; rfl⟩
        have HBS : Hid (BoxAt (wr.setCell ⟨bs, 0, none⟩ (.string (bsL t))).drew bs (.string (bsL t))) := (HBX.out.set (.string (bsL t))).keep (Below.refl _ _).drew
        have hsWa : W.heap.size ≤ (wr.setCell ⟨bs, 0, none⟩ (.string (bsL t))).drew.heap.size := by show _ ≤ (wr.setCell ⟨bs, 0, none⟩ (.string (bsL t))).heap.size; rw [size_setCell1]; exact hsz
        have HJS : Hid (J pre (wr.setCell ⟨bs, 0, none⟩ (.string (bsL t))).drew) := HJ.out _ _ _ HJR.out ((touched_set wr bs _).trans (Touched.ofBelow (Below.refl _ _).drew))
        obtain ⟨fn, tmps, assign, body, hy, hR⟩ := HY.out pre (p ++ [10]) (wr.setCell ⟨bs, 0, none⟩ (.string (bsL t))).drew HJS.out hsWa HPF.out
        have HR7 := Lib.hid hR
        clear hR
        clear hp1 hp2 hp3 hlen
        gi_wp2_with fail
        refine ⟨trivial, fun h => (by cases h), ?_⟩
        refine (callsIn_wide.2 HIB.out).mono ?_
        rintro e w' ⟨rfl, rfl⟩
        gi_wp2_with fail
        refine wpIn_wide.2 ?_
        go_region
        clear kb kf
        gi_wp2
        refine ⟨fun h => (by cases h), HR7.out.mono ?_⟩
        rintro e W3 (⟨rfl, hJ3, hk3⟩ | ⟨rfl, hJx3, -⟩)
        · have HJ3 := Lib.hid hJ3
          have HB3 := Lib.hid (HKB.out _ _ _ HBS.out hk3)
          have hsz3 : W.heap.size ≤ W3.heap.size := Nat.le_trans hsWa hk3.1
          clear hJ3 hk3 hy
          gi_wp2
          go_roundw
          case rel => exact ⟨pre ++ [p ++ [10]], t, HB3.out, by rw [List.append_assoc, ← HEQ.out, HLR.out]; simp [linesL_nil], HNL.out.1, HJ3.out, hsz3⟩
          case measure =>
            rw [HME.out, HB3.out.1]
            show (bsL (t)).size < _
            rw [bsL_size]
            exact HNL.out.2
        · have HX3 := Lib.hid hJx3
          clear hJx3 hy
          gi_wp2
          refine bodyPost_ret (results_none rfl _ _ _) rfl ?_
          exact ⟨⟨_, rfl⟩, .inr ⟨_, HPF.out, by simp, HX3.out⟩⟩

end Go.Proofs.Ytgeifbgjfbfcfaa

/- Plain facts of the lines of a text and of the ones in them. No statement of the program. -/
namespace Go.Proofs.Ytgeifbgjfbfcfaa
open Go.RowKit

theorem onesTo_app (x y : List UInt8) : ∀ k, k ≤ x.length → onesTo (x ++ y) k = onesTo x k := by
  intro k
  induction k with
  | zero => intro _; rfl
  | succ k ih =>
    intro hk
    rw [onesTo, onesTo, ih (by omega), List.getElem?_append_left (by omega)]
theorem onesL_end (x : List UInt8) : onesL (x ++ [10]) = onesL x := by
  unfold onesL
  rw [List.length_append, List.length_singleton, onesTo, onesTo_app x [10] _ (Nat.le_refl _), List.getElem?_append_right (Nat.le_refl _)]
  simp
theorem linesOf_ends : ∀ X : List (List UInt8), X.getLast? = some [] → linesOf X = (X.take (X.length - 1)).map (· ++ [10]) := by
  intro X
  induction X with
  | nil => intro h; simp at h
  | cons x X ih =>
    intro h
    match X, ih, h with
    | [], _, h => simp at h; subst h; rfl
    | y :: t, ih, h =>
      have h2 : (y :: t).getLast? = some [] := by rw [← h, List.getLast?_cons_cons]
      rw [linesOf, ih h2]
      simp [List.take_succ_cons]
theorem split_ends : ∀ t : List UInt8, (splitL 10 (t ++ [10])).getLast? = some [] ∧ 2 ≤ (splitL 10 (t ++ [10])).length := by
  intro t
  induction t with
  | nil => exact ⟨rfl, Nat.le_refl _⟩
  | cons c t ih =>
    rw [List.cons_append, splitL]
    match hX : splitL 10 (t ++ [10]), ih with
    | [], ih => simp at ih
    | [h], ih => simp at ih
    | h :: y :: r, ih =>
      have h2 : (y :: r).getLast? = some [] := by rw [← ih.1, List.getLast?_cons_cons]
      split
      · exact ⟨by rw [List.getLast?_cons_cons, List.getLast?_cons_cons]; exact h2, by simp⟩
      · exact ⟨by simp only [List.getLast?_cons_cons]; exact h2, by simp⟩
/-- What the lines say, as the program reads them. -/
def hS (s : List UInt8) : List (List Int) := (linesL s).map onesL
theorem hS_end (t : List UInt8) : hS (t ++ [10]) = gS (t ++ [10]) := by
  unfold hS linesL gS gridS
  rw [linesOf_ends _ (split_ends t).1, List.map_map]
  congr 1
  funext x
  exact onesL_end x
theorem hS_nil : hS [] = gS [] := rfl
theorem rowsTo_end (A : Nat → Nat → Bool) (n v : Nat) : rowsTo A n v = [] ∨ ∃ t, rowsTo A n v = t ++ [10] := by
  cases v with
  | zero => exact .inl rfl
  | succ v => exact .inr ⟨rowsTo A n v ++ lineTo A v n, by rw [rowsTo, List.append_assoc]⟩
theorem rowsL_end (L : List (List Int)) : rowsL L = [] ∨ ∃ t, rowsL L = t ++ [10] := by
  unfold rowsL
  split
  · exact rowsTo_end _ _ _
  · exact .inl rfl
theorem hS_eq {s : List UInt8} {L : List (List Int)} (h : rowsL L = s) : hS s = gS s := by
  rcases rowsL_end L with e | ⟨t, e⟩
  · rw [← h, e]; exact hS_nil
  · rw [← h, e]; exact hS_end t
theorem hS_yes {s : List UInt8} (hG : GraphP (hS s)) (he : rowsL (hS s) = s) : TrP s ∧ hS s = gS s := by
  have e := hS_eq he
  rw [e] at hG he
  exact ⟨⟨hG, he⟩, e⟩
theorem hS_no {s : List UInt8} (h : ¬ (GraphP (hS s) ∧ rowsL (hS s) = s)) : ¬ TrP s := by
  rintro ⟨hG, he⟩
  exact h (by rw [hS_eq he]; exact ⟨hG, he⟩)
theorem linesOf_len : ∀ X : List (List UInt8), (linesOf X).length ≤ X.length ∧ ∀ x ∈ linesOf X, ∃ y ∈ X, x.length ≤ y.length + 1 := by
  intro X
  induction X with
  | nil => exact ⟨Nat.le_refl _, fun x hx => by simp [linesOf] at hx⟩
  | cons x X ih =>
    match X, ih with
    | [], _ =>
      rw [linesOf]
      split
      · exact ⟨by simp, fun x hx => by simp at hx⟩
      · exact ⟨by simp, fun z hz => ⟨x, by simp, by simp at hz; subst hz; omega⟩⟩
    | y :: t, ih =>
      rw [linesOf]
      refine ⟨by have := ih.1; simp at this ⊢; omega, fun z hz => ?_⟩
      rcases List.mem_cons.1 hz with rfl | hz
      · exact ⟨x, by simp, by simp⟩
      · obtain ⟨u, hu, hl⟩ := ih.2 z hz
        exact ⟨u, List.mem_cons_of_mem _ hu, hl⟩
theorem linesL_len (s : List UInt8) : (linesL s).length ≤ s.length + 1 ∧ ∀ x ∈ linesL s, x.length ≤ s.length + 1 := by
  obtain ⟨h1, h2⟩ := linesOf_len (splitL 10 s)
  refine ⟨Nat.le_trans h1 (splitL_len 10 s).1, fun x hx => ?_⟩
  obtain ⟨y, hy, hl⟩ := h2 x hx
  have := split_short 10 s y hy
  omega
theorem trL_small (s : List UInt8) : Small (trL s) := by
  by_cases h : TrP s
  · rw [(tr_yes h).1]
    have hz := h.1.1
    refine ⟨by omega, fun i hi => ?_⟩
    have := (h.1.2.1 i hi).1.len (by omega)
    omega
  · rw [(tr_no h).1]
    exact ⟨by simp, fun i hi => absurd hi (by simp)⟩

end Go.Proofs.Ytgeifbgjfbfcfaa

/- Walks: TextRows of the program. -/
namespace Go.Proofs.Ytgeifbgjfbfcfaa
open Go.RowKit Go.Shelf
attribute [local go_sem] Oper.semAt_some

theorem lines_any (s : List UInt8) (w : World) : Calls Try.prog 64 #[.string (bsL s)] w fun e w' => e = .returned (.func (.func 99) #[] #[.pointer (some ⟨w.heap.size, 0, none⟩)]) ∧ w' = w.alloc (.cells #[.string (bsL s)] 9) := by
  go_enter Try.func64, Try.ntmps64
  go_wp2
  go_ret
  exact ⟨rfl, rfl⟩

/-- The boxes of TextRows at work: the answer's, the graph's; behind the loop's own two blocks lies what the rounds made. -/
structure TlW (w : World) (pre : List (List UInt8)) (wr : World) : Prop where
  res : BoxAt wr w.heap.size (.slice none 0 0)
  out : ∃ a c, BoxAt wr (w.heap.size + 1) (.slice a pre.length c) ∧ OwnGrid 2 29 wr (w.heap.size + 5) (.slice a pre.length c) (pre.map onesL)
  bel : Below w.heap.size w wr
theorem TwoB.touched {b c B U : Nat} {A A' : World} (h : TwoB b c A A') (hb : B ≤ b ∧ b < U) (hc : B ≤ c ∧ c < U) : Touched B U A A' := ⟨h.os, h.tape, h.output, h.size, fun j hj ho => h.other j hj (by omega) (by omega)⟩
theorem BoxAt.two {b c i : Nat} {A A' : World} {v : Value} (h : BoxAt A i v) (ht : TwoB b c A A') (h1 : i ≠ b) (h2 : i ≠ c) : BoxAt A' i v := by
  have e := ht.other i h.lt h1 h2
  refine ⟨by rw [World.cell?_of_block (w := A) (w' := A') e]; exact h.1, ?_⟩
  rw [← h.2]
  simp only [World.frozen?, e]
theorem TlW.two {w A B : World} {pre : List (List UInt8)} (h : TlW w pre A) (ht : TwoB (w.heap.size + 2) (w.heap.size + 4) A B) : TlW w pre B := by
  obtain ⟨a, c, hb, hg⟩ := h.out
  exact ⟨h.res.two ht (by omega) (by omega), ⟨a, c, hb.two ht (by omega) (by omega), hg.touched (ht.touched (B := w.heap.size + 2) (U := w.heap.size + 5) ⟨by omega, by omega⟩ ⟨by omega, by omega⟩) (Nat.le_refl _)⟩,
    ⟨ht.os.trans h.bel.os, ht.tape.trans h.bel.tape, ht.output.trans h.bel.output, Nat.le_trans h.bel.size ht.size, fun j hj => (ht.other j (Nat.lt_of_lt_of_le hj h.bel.size) (by omega) (by omega)).trans (h.bel.block j hj)⟩⟩
theorem TlW.grow {w wr w2 w7 : World} {pre : List (List UInt8)} {x : List UInt8} {g cap k : Nat} {a : Option Addr} {c : Nat} {rv : Value} {R : Nat → Value} (h : TlW w pre wr) (hk : k = pre.length) (hsz : w.heap.size + 5 ≤ wr.heap.size) (hkl : k ≤ 1048576) (hb : Below wr.heap.size wr w2) (hr : OwnRow 2 w2 wr.heap.size rv (onesL x))
    (hbx : BoxAt wr (w.heap.size + 1) (.slice a k c)) (hR : wr.ownsRow (w.heap.size + 5) 29 1 (.slice a k c) k ((List.range k).map R)) (hRr : ∀ i, i < k → OwnRow 2 wr (w.heap.size + 5) (R i) (nthR (pre.map onesL) i)) (hRd : ∀ i j q, i < j → j < k → (R i).ownBlock = some q → (R j).ownBlock ≠ some q)
    (hown : w7.ownsRow (w.heap.size + 5) 29 1 (.slice (some ⟨g, 0, none⟩) (k + 1) cap) (k + 1) ((List.range k).map R ++ [rv])) (hgrow : (w2.alloc (.cells #[rv] 29)).grownBy w7 (Value.slice a k c).ownBlock) :
    BoxAt w7 (w.heap.size + 1) (.slice a k c) ∧ TlW w (pre ++ [x]) (w7.setCell ⟨w.heap.size + 1, 0, none⟩ (.slice (some ⟨g, 0, none⟩) (k + 1) cap)) ∧ KeepsBut (fun j => j = w.heap.size + 1 ∨ w.heap.size + 5 ≤ j) wr (w7.setCell ⟨w.heap.size + 1, 0, none⟩ (.slice (some ⟨g, 0, none⟩) (k + 1) cap)) := by
  have htl : (pre.map onesL).length = k := by rw [List.length_map, hk]
  have hW : Below wr.heap.size wr (w2.alloc (.cells #[rv] 29)) := hb.alloc hb.size _
  have hbw : Below (w.heap.size + 5) wr w7 := (hW.mono hsz).grown hgrow (by rw [size_alloc1]; have := hb.size; omega) (fun j hj => (hR.lt j hj).1)
  have hog : OwnGrid 2 29 w7 (w.heap.size + 5) (.slice (some ⟨g, 0, none⟩) (k + 1) cap) (pre.map onesL ++ [onesL x]) := by
    refine OwnGrid.snoc (w0 := wr) (w := w2.alloc (.cells #[rv] 29)) (rv := rv) (n := k) (v := .slice a k c) (by decide) hW hsz ?_ htl.symm (by rw [htl]; unfold maxLen; omega) R (by rw [htl]; exact hR) (by rw [htl]; exact hRr) (by rw [htl]; exact hRd) (by rw [htl]; exact hown) hgrow
    exact hr.keep ((Below.refl _ _).alloc (Nat.le_refl _) _)
  have hbx7 := hbx.keepB hbw (by omega)
  have hkl2 : (pre ++ [x]).length = k + 1 := by simp [hk]
  refine ⟨hbx7, ⟨(h.res.keepB hbw (by omega)).setOther (by show w.heap.size + 1 ≠ _; omega) _, ⟨some ⟨g, 0, none⟩, cap, by rw [hkl2]; exact hbx7.set _, by rw [hkl2, List.map_append]; exact hog.setBelow (by show w.heap.size + 1 < _; omega) _⟩, (h.bel.trans (hbw.mono (by omega))).setCell (by show _ ≤ w.heap.size + 1; omega) _⟩, ?_, ?_⟩
  · rw [size_setCell1]; exact hbw.size
  · intro j hj hn
    rw [heap_setCell_other _ _ _ _ (by show j ≠ w.heap.size + 1; omega)]
    exact hbw.block j (by omega)

theorem OwnRow.keptD {T : TypeId} {w w' : World} {B : Nat} {v : Value} {xs : List Int} (h : OwnRow T w B v xs) (hk : ∀ (k : Nat) (cs : Array Value) (fr : Nat × Nat), w.heap[k]? = some (Obj.cells cs T fr) → w'.heap[k]? = some (Obj.cells cs T fr)) : OwnRow T w' B v xs := by
  obtain ⟨h1, h2, h3⟩ := h
  refine ⟨h1, h2, ?_⟩
  rcases h3 with h3 | ⟨g, cap, cur, e, hg, hh, r⟩
  · exact Or.inl h3
  · exact Or.inr ⟨g, cap, cur, e, hg, hk _ _ _ hh, r⟩
theorem OwnGrid.keptD {T T1 : TypeId} {w w' : World} {B : Nat} {v : Value} {L : List (List Int)} (h : OwnGrid T T1 w B v L) (hk : ∀ (k : Nat) (cs : Array Value) (U : TypeId) (fr : Nat × Nat), U = T ∨ U = T1 → w.heap[k]? = some (Obj.cells cs U fr) → w'.heap[k]? = some (Obj.cells cs U fr)) : OwnGrid T T1 w' B v L := by
  obtain ⟨R, h2, h3, h4, h5⟩ := h
  refine ⟨R, h2, ?_, fun i hi => (h4 i hi).keptD (fun k cs fr h => hk k cs T fr (.inl rfl) h), h5⟩
  rcases h3 with h3 | ⟨g, cap, cur, e, hg, hh, r⟩
  · exact Or.inl h3
  · exact Or.inr ⟨g, cap, cur, e, hg, hk _ _ _ _ (.inr rfl) hh, r⟩
theorem tl_end {w X : World} {D m c : Nat} {a : Option Addr} {L : List (List Int)} (ok : Bool) (hres : BoxAt X w.heap.size (.slice none 0 0)) (hb : Below w.heap.size w X) (hD : X.heap[D]? = some (.deferred (some []))) (hg : OwnGrid 2 29 X (w.heap.size + 1) (.slice a m c) L) (hDl : w.heap.size < D) :
    (X.setCell ⟨w.heap.size, 0, none⟩ (.slice a m c)).heap[D]? = some (.deferred (some [])) ∧ ((X.setCell ⟨w.heap.size, 0, none⟩ (.slice a m c)).putObj D (.deferred none)).cell? ⟨w.heap.size, 0, none⟩ = some (.slice a m c) ∧
    GaveGB w L ok (.returned (.tuple #[.agg #[.slice a m c], .bool ok])) ((X.setCell ⟨w.heap.size, 0, none⟩ (.slice a m c)).putObj D (.deferred none)) := by
  have hDX : D < X.heap.size := (Array.getElem?_eq_some_iff.1 hD).1
  have e1 : (X.setCell ⟨w.heap.size, 0, none⟩ (.slice a m c)).heap[D]? = some (.deferred (some [])) := by
    rw [heap_setCell_other _ _ _ _ (by show D ≠ w.heap.size; omega)]; exact hD
  refine ⟨e1, ?_, m, a, c, rfl, ?_, ?_⟩
  · rw [World.cell?_of_block (w := X.setCell ⟨w.heap.size, 0, none⟩ (.slice a m c)) (World.putObj_heap_other (by show w.heap.size ≠ D; omega))]
    exact cell_set_same _ hres.1
  · refine ((hg.setBelow (a := ⟨w.heap.size, 0, none⟩) (by show w.heap.size < _; omega) (.slice a m c)).mono (by omega)).keptD (fun k cs U fr _ hk => ?_)
    rw [World.putObj_heap_other (fun e => by rw [e, e1] at hk; cases hk)]
    exact hk
  · exact (hb.setCell (p := ⟨w.heap.size, 0, none⟩) (Nat.le_refl _) _).trans (below_put _ D _ (by omega) (by rw [size_setCell1]; exact hDX))

set_option maxHeartbeats 4000000 in
set_option maxRecDepth 100000 in
theorem implTextRows_any (s : List UInt8) (w : World) (hs : s.length ≤ 1048576) : Calls Try.prog 29 #[.string (bsL s)] w (GaveGB w (trL s) (trB s)) := by
  obtain ⟨i0, hi, hz0, hz1, hz2⟩ := info_parts Try.infoR
  have hsz := bsL_size s
  have hbx0 : BoxAt (w.alloc (.cells #[.slice none 0 0] 26)) w.heap.size (.slice none 0 0) := BoxAt.new _ _ _
  have hb0 : Below w.heap.size w (w.alloc (.cells #[.slice none 0 0] 26)) := (Below.refl _ _).alloc (Nat.le_refl _) _
  have HBX0 := Lib.hid hbx0
  have HB0 := Lib.hid hb0
  refine calls_marks Try.func29 rfl ?_
  simp only [Try.ntmps29, List.size_toArray, List.length_cons, List.length_nil, Nat.reduceAdd, Nat.reduceSub, Array.replicate_succ, Array.replicate_zero, List.push_toArray, List.append_toArray, List.nil_append, List.cons_append]
  by_cases hlong : 800 < s.length
  · have HNO := Lib.hid (tr_no (tr_long hlong))
    have hI : (800 : Int) < (s.length : Int) := by omega
    clear hbx0 hb0
    go_wp2
    refine ⟨.tuple #[.agg #[.slice none 0 0], .bool false], by simp [results, Try.results29, go_sem], ?_⟩
    rw [HNO.out.1, HNO.out.2]
    exact GaveGB.no HB0.out
  · have hI : ¬ (800 : Int) < (s.length : Int) := by omega
    clear hbx0 hb0
    go_wp2_with fail
    refine (lines_any s _).mono ?_
    rintro e w2 ⟨rfl, hw2⟩
    simp only [size_alloc1, Nat.add_assoc, Nat.reduceAdd] at hw2 ⊢
    have hz2' : w2.heap.size = w.heap.size + 3 := by rw [hw2]; simp [World.size_alloc]
    have hbw2 : Below (w.heap.size + 1 + 1) ((w.alloc (.cells #[.slice none 0 0] 26)).alloc (.cells #[.slice none 0 0] 26)) w2 := by
      rw [hw2]; exact (Below.refl _ _).alloc (by simp) _
    have HBX2 : Hid (BoxAt w2 (w.heap.size + 2) (.string (bsL s))) := by
      show BoxAt _ _ _
      rw [hw2]
      have := BoxAt.new ((w.alloc (.cells #[.slice none 0 0] 26)).alloc (.cells #[.slice none 0 0] 26)) (.string (bsL s)) 9
      simpa only [size_alloc1, Nat.add_assoc, Nat.reduceAdd] using this
    have HT0 : Hid (TlW w [] w2) := by
      have e1 : Below w.heap.size w w2 := by rw [hw2]; exact ((HB0.out.alloc (by simp) _).alloc (by simp; omega) _)
      have b1 : BoxAt ((w.alloc (.cells #[.slice none 0 0] 26)).alloc (.cells #[.slice none 0 0] 26)) (w.heap.size + 1) (.slice none 0 0) := by
        have := BoxAt.new (w.alloc (.cells #[.slice none 0 0] 26)) (.slice none 0 0) 26
        simpa only [size_alloc1] using this
      have b0 := HBX0.out.keep ((Below.refl _ _).alloc (Nat.le_refl _) (.cells #[.slice none 0 0] 26))
      exact ⟨b0.keepB hbw2 (by omega), ⟨none, 0, b1.keepB hbw2 (by omega), own_nil _ _⟩, e1⟩
    have HLL := Lib.hid (linesL_len s)
    have HSQ := Lib.hid (lines1_seq 8 (fun j => j = w.heap.size + 1 ∨ w.heap.size + 5 ≤ j) (w.heap.size + 2) s w2 hs HBX2.out (by omega))
    have HHS : Hid (hS s = (linesL s).map onesL) := rfl
    obtain ⟨Z, hZ⟩ : ∃ Z, linesL s = Z := ⟨_, rfl⟩
    rw [hZ] at HSQ HLL HHS
    clear hbw2 hw2 hZ HB0 HBX0
    go_wp2_with fail
    refine (wpIn_wide (n := 9)).1 ?_
    refine wpIn_rangeFunc_tch rfl (by omega) (gf := 99) (lb := #[.pointer (some ⟨w.heap.size + 2, 0, none⟩)]) rfl trivial (enters_of Try.func99 (by kernel_rfl) rfl)
      HSQ.out (by omega) (fun k hk => by omega) rfl
      (fun pre W => TlW w pre W)
      (fun _ _ _ => False)
      (fun s A B hs hb => hs.two (by rw [hz2'] at hb; exact hb))
      (fun _ _ _ _ _ h _ => h)
      HT0.out
      ?a1 ?assign ?body ?done ?stop
    case assign =>
      intro l x W K hK
      gi_wp2
      exact hK
    case body =>
      intro l pre x W hI hsz2 hpx
      have hxl := HLL.out.2 x (hpx.subset (by simp))
      have hpl := hpx.length_le
      simp only [List.length_append, List.length_singleton] at hpl
      have hzl := HLL.out.1
      rw [hz2'] at hsz2
      obtain ⟨ag, cg, hbg, hog⟩ := hI.out
      obtain ⟨R, hR, hRr, hRd⟩ := hog.owns
      rw [List.length_map] at hR hRr hRd
      have HI := Lib.hid hI
      obtain ⟨k, hk⟩ : ∃ k, pre.length = k := ⟨_, rfl⟩
      have HK := Lib.hid hk.symm
      rw [hk] at hbg hR hRr hRd hpl
      have kg := hbg.1
      have HBG := Lib.hid hbg
      have HR := Lib.hid hR
      have HRr := Lib.hid hRr
      have HRd := Lib.hid hRd
      have KC : Hid (∀ W', Below W.heap.size W W' → W'.cell? ⟨w.heap.size + 1, 0, none⟩ = some (.slice ag k cg)) := fun W' hb => cell_keep hb kg
      have HON : Hid (∀ W', Below W.heap.size W W' → Calls Try.prog 65 #[.string (bsL x)] W' (GaveRow W' (onesL x))) := fun W' _ => onesOf_any x W' (by omega)
      have kd := KC.out _ (Below.refl _ _).drew
      clear hI hbg hog hR hRr hRd hk HSQ HT0 HBX2
      gi_wp2_with fail
      refine wpIn_region_any (by kernel_rfl) (anyIn_of _ (by kernel_rfl) _ _ _ _ ?_)
      change wpAny _ _ _ _ _ _ _ (World.drew _)
      refine wpAny_take (i := 0) (v := .pointer (some ⟨w.heap.size + 1, 0, none⟩)) rfl (by kernel_rfl) (by kernel_rfl) (by kernel_rfl) (fun c a w h => by cases h.1) (Or.inl ⟨by rfl, by intro w; go_simp⟩) ?_
      refine wpAny_take (i := 2) (v := .string (bsL x)) rfl (by kernel_rfl) (by kernel_rfl) (by kernel_rfl) (fun c a w h => by cases h.1) (Or.inl ⟨by rfl, by intro w; go_simp⟩) ?_
      simp only [Act.put, List.setIfInBounds_toArray, List.set_cons_zero, List.set_cons_succ]
      refine wpAny_ready (rs := [1, 3]) (by kernel_rfl) (by simp) (AllReady.cons rfl (fun K hK => ?_) (AllReady.cons rfl (fun K hK => ?_) AllReady.nil))
      · go_simp
        refine hK _ _ ?_
        clear hK K
        refine wpAny_ready (rs := [3]) (by kernel_rfl) (by simp) (AllReady.cons rfl (fun K hK => ?_) AllReady.nil)
        go_simp
        refine (HON.out _ (Below.refl _ _).drew).mono ?_
        rintro e w6 ⟨n6, a6, c6, rfl, ho6, hb6⟩
        have HB6 : Hid (Below W.heap.size W w6) := (Below.refl _ _).drew.trans hb6
        have HO6 : Hid (OwnRow 2 w6 W.heap.size (.slice a6 n6 c6) (onesL x)) := ho6
        have kt6 := KC.out _ HB6.out
        have ktA := KC.out (w6.alloc (.cells #[.slice a6 n6 c6] 29)) (HB6.out.alloc HB6.out.size _)
        have HOW : Hid ((w6.alloc (.cells #[.slice a6 n6 c6] 29)).ownsRow (w.heap.size + 5) 29 1 (.slice ag k cg) k ((List.range k).map R)) := (own_keepR HR.out HB6.out).alloc _
        have hz6 := HB6.out.size
        clear ho6 hb6
        refine hK _ _ ?_
        clear hK K
        refine wpAny_ready (rs := [4]) (by kernel_rfl) (by simp) (AllReady.cons rfl (fun K hK => ?_) AllReady.nil)
        go_simp
        refine hK _ _ ?_
        clear hK K
        refine wpAny_ready (rs := [5]) (by kernel_rfl) (by simp) (AllReady.cons rfl (fun K hK => ?_) AllReady.nil)
        refine step_append_own _ (by rfl) (.tmp 15) (.tmp 18) 24 (by rfl) (w.heap.size + 5) 29 i0 (.slice none 0 0) 1 24 Try.underlying24 hi hz0 hz1 hz2 rfl (by decide) (.slice ag k cg) _ _ (by rfl) HOW.out ⟨w6.heap.size, 0, none⟩ 1 1 [.slice a6 n6 c6] (by rfl) rfl (World.news_of_block (heap_alloc_new _ _)) (fun u hu => by simp at hu; subst hu; rfl) (by unfold maxLen; omega) (by omega) (by rw [size_alloc1]; omega) ?_
        intro v7 w7 hown7 hgrow7
        obtain ⟨g7, cap7, e7⟩ := own_some hown7
        subst e7
        have hgw := HI.out.grow HK.out (by omega) (by omega) HB6.out HO6.out HBG.out HR.out HRr.out HRd.out hown7 hgrow7
        have kt7 := hgw.1.1
        have ft7 := hgw.1.2
        have HW7 := Lib.hid hgw.2
        clear hown7 hgrow7 hgw kt6 ktA kd kg
        refine hK _ _ ?_
        clear hK K
        simp only [Act.put, List.setIfInBounds_toArray, List.set_cons_zero, List.set_cons_succ]
        refine wpAny_ready (rs := [6]) (by kernel_rfl) (by simp) (AllReady.cons rfl (fun K hK => ?_) AllReady.nil)
        go_simp
        refine hK _ _ ?_
        clear hK K
        refine wpAny_ready (rs := [7]) (by kernel_rfl) (by simp) (AllReady.cons rfl (fun K hK => ?_) AllReady.nil)
        go_simp
        refine hK _ _ ?_
        clear hK K
        refine wpAny_done (by kernel_rfl) ?_ _
        refine ⟨rfl, ?_⟩
        clear kt7 ft7
        gi_wp2
        exact ⟨HW7.out.2, HW7.out.1⟩
      · go_simp
        refine (HON.out _ (Below.refl _ _).drew).mono ?_
        rintro e w6 ⟨n6, a6, c6, rfl, ho6, hb6⟩
        have HB6 : Hid (Below W.heap.size W w6) := (Below.refl _ _).drew.trans hb6
        have HO6 : Hid (OwnRow 2 w6 W.heap.size (.slice a6 n6 c6) (onesL x)) := ho6
        have kt6 := KC.out _ HB6.out
        have ktA := KC.out (w6.alloc (.cells #[.slice a6 n6 c6] 29)) (HB6.out.alloc HB6.out.size _)
        have HOW : Hid ((w6.alloc (.cells #[.slice a6 n6 c6] 29)).ownsRow (w.heap.size + 5) 29 1 (.slice ag k cg) k ((List.range k).map R)) := (own_keepR HR.out HB6.out).alloc _
        have hz6 := HB6.out.size
        clear ho6 hb6
        refine hK _ _ ?_
        clear hK K
        refine wpAny_ready (rs := [1, 4]) (by kernel_rfl) (by simp) (AllReady.cons rfl (fun K hK => ?_) (AllReady.cons rfl (fun K hK => ?_) AllReady.nil))
        · go_simp
          refine hK _ _ ?_
          clear hK K
          refine wpAny_ready (rs := [4]) (by kernel_rfl) (by simp) (AllReady.cons rfl (fun K hK => ?_) AllReady.nil)
          go_simp
          refine hK _ _ ?_
          clear hK K
          refine wpAny_ready (rs := [5]) (by kernel_rfl) (by simp) (AllReady.cons rfl (fun K hK => ?_) AllReady.nil)
          refine step_append_own _ (by rfl) (.tmp 15) (.tmp 18) 24 (by rfl) (w.heap.size + 5) 29 i0 (.slice none 0 0) 1 24 Try.underlying24 hi hz0 hz1 hz2 rfl (by decide) (.slice ag k cg) _ _ (by rfl) HOW.out ⟨w6.heap.size, 0, none⟩ 1 1 [.slice a6 n6 c6] (by rfl) rfl (World.news_of_block (heap_alloc_new _ _)) (fun u hu => by simp at hu; subst hu; rfl) (by unfold maxLen; omega) (by omega) (by rw [size_alloc1]; omega) ?_
          intro v7 w7 hown7 hgrow7
          obtain ⟨g7, cap7, e7⟩ := own_some hown7
          subst e7
          have hgw := HI.out.grow HK.out (by omega) (by omega) HB6.out HO6.out HBG.out HR.out HRr.out HRd.out hown7 hgrow7
          have kt7 := hgw.1.1
          have ft7 := hgw.1.2
          have HW7 := Lib.hid hgw.2
          clear hown7 hgrow7 hgw kt6 ktA kd kg
          refine hK _ _ ?_
          clear hK K
          simp only [Act.put, List.setIfInBounds_toArray, List.set_cons_zero, List.set_cons_succ]
          refine wpAny_ready (rs := [6]) (by kernel_rfl) (by simp) (AllReady.cons rfl (fun K hK => ?_) AllReady.nil)
          go_simp
          refine hK _ _ ?_
          clear hK K
          refine wpAny_ready (rs := [7]) (by kernel_rfl) (by simp) (AllReady.cons rfl (fun K hK => ?_) AllReady.nil)
          go_simp
          refine hK _ _ ?_
          clear hK K
          refine wpAny_done (by kernel_rfl) ?_ _
          refine ⟨rfl, ?_⟩
          clear kt7 ft7
          gi_wp2
          exact ⟨HW7.out.2, HW7.out.1⟩
        · go_simp
          refine hK _ _ ?_
          clear hK K
          refine wpAny_ready (rs := [1]) (by kernel_rfl) (by simp) (AllReady.cons rfl (fun K hK => ?_) AllReady.nil)
          go_simp
          refine hK _ _ ?_
          clear hK K
          refine wpAny_ready (rs := [5]) (by kernel_rfl) (by simp) (AllReady.cons rfl (fun K hK => ?_) AllReady.nil)
          refine step_append_own _ (by rfl) (.tmp 15) (.tmp 18) 24 (by rfl) (w.heap.size + 5) 29 i0 (.slice none 0 0) 1 24 Try.underlying24 hi hz0 hz1 hz2 rfl (by decide) (.slice ag k cg) _ _ (by rfl) HOW.out ⟨w6.heap.size, 0, none⟩ 1 1 [.slice a6 n6 c6] (by rfl) rfl (World.news_of_block (heap_alloc_new _ _)) (fun u hu => by simp at hu; subst hu; rfl) (by unfold maxLen; omega) (by omega) (by rw [size_alloc1]; omega) ?_
          intro v7 w7 hown7 hgrow7
          obtain ⟨g7, cap7, e7⟩ := own_some hown7
          subst e7
          have hgw := HI.out.grow HK.out (by omega) (by omega) HB6.out HO6.out HBG.out HR.out HRr.out HRd.out hown7 hgrow7
          have kt7 := hgw.1.1
          have ft7 := hgw.1.2
          have HW7 := Lib.hid hgw.2
          clear hown7 hgrow7 hgw kt6 ktA kd kg
          refine hK _ _ ?_
          clear hK K
          simp only [Act.put, List.setIfInBounds_toArray, List.set_cons_zero, List.set_cons_succ]
          refine wpAny_ready (rs := [6]) (by kernel_rfl) (by simp) (AllReady.cons rfl (fun K hK => ?_) AllReady.nil)
          go_simp
          refine hK _ _ ?_
          clear hK K
          refine wpAny_ready (rs := [7]) (by kernel_rfl) (by simp) (AllReady.cons rfl (fun K hK => ?_) AllReady.nil)
          go_simp
          refine hK _ _ ?_
          clear hK K
          refine wpAny_done (by kernel_rfl) ?_ _
          refine ⟨rfl, ?_⟩
          clear kt7 ft7
          gi_wp2
          exact ⟨HW7.out.2, HW7.out.1⟩
    case done =>
      intro D W hI hD hK
      rw [hz2'] at hD
      obtain ⟨ag, cg, hbg, hog⟩ := hI.out
      rw [← HHS.out] at hog
      obtain ⟨kk, hkk⟩ : ∃ kk, Z.length = kk := ⟨_, rfl⟩
      rw [hkk] at hbg hog
      have HOG := Lib.hid hog
      have HBG := Lib.hid hbg
      have kt := hbg.1
      have HRES := Lib.hid hI.res
      have HBR := Lib.hid hI.bel
      have hDW : D < W.heap.size := (Array.getElem?_eq_some_iff.1 hK).1
      have HKD := Lib.hid hK
      clear hI hbg hog hK hkk HSQ HT0 HBX2 HHS HLL
      go_wp2_with fail
      refine (implGraphOk_any _ (hS s) _ HOG.out.grid).mono ?_
      rintro e w4 ⟨rfl, hb4⟩
      have kt4 := cell_keep hb4 kt
      have HRES4 := Lib.hid (HRES.out.keep hb4)
      have kr4 := HRES4.out.1
      have kf4 := HRES4.out.2
      have HOG4 := Lib.hid (HOG.out.keep hb4)
      have HB4 : Hid (Below w.heap.size w w4) := HBR.out.trans (hb4.mono HBR.out.size)
      have HK4 : Hid (w4.heap[D]? = some (.deferred (some []))) := (hb4.block D hDW).trans HKD.out
      have hz4 := hb4.size
      clear hb4 kt
      by_cases hG : GraphP (hS s)
      · rw [decide_eq_true hG]
        have HG := Lib.hid hG
        clear hG
        go_wp2_with fail
        refine (implRowsText_any _ (hS s) _ HOG4.out.grid).mono ?_
        rintro e w5 ⟨rfl, hb5⟩
        have kt5 := cell_keep hb5 kt4
        have HRES5 := Lib.hid (HRES4.out.keep hb5)
        have kr5 := HRES5.out.1
        have kf5 := HRES5.out.2
        have HOG5 := Lib.hid (HOG4.out.keep hb5)
        have HB5 : Hid (Below w.heap.size w w5) := HB4.out.trans (hb5.mono HB4.out.size)
        have HK5 : Hid (w5.heap[D]? = some (.deferred (some []))) := (hb5.block D (by omega)).trans HK4.out
        clear hb5 kt4 kr4 kf4
        by_cases he : rowsL (hS s) = s
        · have HT := Lib.hid (hS_yes HG.out he)
          have HY := Lib.hid (tr_yes HT.out.1)
          have hcmp : ((bsL (rowsL (hS s))).toList == (bsL s).toList) = true := by rw [bsL_list, bsL_list, he]; simp
          have HE := Lib.hid (tl_end true HRES5.out HB5.out HK5.out (HOG5.out.mono (by omega)) (by omega))
          clear he
          go_wp2
          refine ⟨by simp, .inl ⟨_, _, rfl, run_takeDeferred HE.out.1, ?_⟩⟩
          refine ⟨.tuple #[.agg #[.slice ag kk cg], .bool true], by simp [results, Try.results29, go_sem, HE.out.2.1], ?_⟩
          rw [HY.out.1, HY.out.2, ← HT.out.2]
          exact HE.out.2.2
        · have HN := Lib.hid (tr_no (hS_no (s := s) (fun h => he h.2)))
          have hcmp : ((bsL (rowsL (hS s))).toList == (bsL s).toList) = false := by rw [bsL_list, bsL_list, beq_eq_false_iff_ne]; exact he
          have HE := Lib.hid (tl_end (L := []) (m := 0) (c := 0) (a := none) false HRES5.out HB5.out HK5.out (own_nil _ _) (by omega))
          clear he
          go_wp2
          refine ⟨by simp, .inl ⟨_, _, rfl, run_takeDeferred HE.out.1, ?_⟩⟩
          refine ⟨.tuple #[.agg #[.slice none 0 0], .bool false], by simp [results, Try.results29, go_sem, HE.out.2.1], ?_⟩
          rw [HN.out.1, HN.out.2]
          exact HE.out.2.2
      · rw [decide_eq_false hG]
        have HN := Lib.hid (tr_no (hS_no (s := s) (fun h => hG h.1)))
        have HE := Lib.hid (tl_end (L := []) (m := 0) (c := 0) (a := none) false HRES4.out HB4.out HK4.out (own_nil _ _) (by omega))
        clear hG
        go_wp2
        refine ⟨by simp, .inl ⟨_, _, rfl, run_takeDeferred HE.out.1, ?_⟩⟩
        refine ⟨.tuple #[.agg #[.slice none 0 0], .bool false], by simp [results, Try.results29, go_sem, HE.out.2.1], ?_⟩
        rw [HN.out.1, HN.out.2]
        exact HE.out.2.2
    case stop =>
      intro D c pre W _ _ h _ _
      exact h.elim

end Go.Proofs.Ytgeifbgjfbfcfaa
