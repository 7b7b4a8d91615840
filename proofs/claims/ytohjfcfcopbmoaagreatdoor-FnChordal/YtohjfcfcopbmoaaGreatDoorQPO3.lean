/- The texts PO3, PO4, joined. -/
import Derived.Test.YtohjfcfcopbmoaaGreatDoorQX2
import Derived.Test.YtohjfcfcopbmoaaGreatDoorQY2
import Derived.RangeFuncFrom
import Derived.RangeFuncCalls
import Derived.Test.YtohjfcfcopbmoaaGreatDoorQY1

/- A region in a round, as outside of it; slices.Backward over masks. -/
namespace Go.Proofs.YtohjfcfcopbmoaaGreatDoor
open Go.RowKit Go.Shelf
attribute [local go_sem] Oper.semAt_some

section
variable {F : Fence} {n : Nat} {P : Program} {ops : Array Oper} {Q : Exit → Act → World → Prop}
theorem lead {G A : Prop} (h : G → A) (g : G) : A := h g
end

/-- What an iterator promises that keeps nothing of its own, where the body may know what has come before. -/
def SeqPre {α : Type} (F : Fence) (n : Nat) (P : Program) (g : Nat) (lb : Array Value) (encs : α → Array Value) (Kp : World → World → Prop) (Pp : List α → α → Prop) (S : List α → Prop) (w : World) : Prop :=
  ∀ (l : Nat) (J Jx : List α → World → Prop) (W : World), Below w.heap.size w W →
    (∀ s A B, J s A → Below A.heap.size A B → J s B) →
    (∀ pre x W1, J pre W1 → Pp pre x → YieldAt F (n - 1) P l (encs x) W1 fun e W' =>
      (e = .returned (.bool true) ∧ J (pre ++ [x]) W' ∧ Kp W1 W') ∨ (e = .returned (.bool false) ∧ Jx (pre ++ [x]) W')) →
    J [] W →
    CallsIn F n P g (#[.func (.yield l) #[] #[]] ++ lb) W fun e W' => (∃ v, e = .returned v) ∧ ((∃ xs, S xs ∧ J xs W') ∨ (∃ pre, Jx pre W'))

/-- The loop's own two blocks lie as they lay. -/
def Two2 (B : Nat) (W W' : World) : Prop := W'.heap[B]? = W.heap[B]? ∧ W'.heap[B + 1]? = W.heap[B + 1]?
/-- How the body of a round may be left. -/
def prePost {α : Type} (B : Nat) (Kp : World → World → Prop) (I : List α → World → Prop) (Ix : Code → List α → World → Prop) (xs : List α) (W : World) : Exit → Act → World → Prop
  | .normal, _, W' => Two2 B W W' ∧ Kp W W' ∧ I xs W'
  | .ret, _, W' => Two2 B W W' ∧ Ix .ret xs W'
  | .exit id, _, W' => Two2 B W W' ∧ Ix (.exit id) xs W'
  | .goto t, _, W' => Two2 B W W' ∧ Ix (.goto t) xs W'
  | .panic _, _, _ => False
  | .outgrown, _, _ => False

theorem wpIn_rangeFunc_pre {F : Fence} {n : Nat} {P : Program} {α : Type} {g : Operand} {ps : Array Tmp} {assign body : Code} {Q : Exit → Act → World → Prop} {a : Act} {w : World}
    (hro : F.round = none) (h1 : 1 ≤ n) {gf : Nat} {lb : Array Value} (hg : a.eval g = .func (.func gf) #[] lb) (hFg : F.fn gf) (eg : ∀ args w, (callFunc gf args).run P w = .ok (.enter gf args) w)
    {encs : α → Array Value} {Kp : World → World → Prop} {Pp : List α → α → Prop} {S : List α → Prop} (hseq : SeqPre F (n - 1) P gf lb encs Kp Pp S w)
    (hKt : ∀ {A B C : World}, Kp A B → Kp B C → Kp A C) (hKp : ∀ (W : World) (o : Obj), Kp W (W.putObj (w.heap.size + 1) o)) (hps : ∀ x, (encs x).size = ps.size)
    (I : List α → World → Prop) (Ix : Code → List α → World → Prop) (hI : ∀ s A B, I s A → Below A.heap.size A B → I s B)
    (hIp : ∀ s A r o, I s A → A.heap[w.heap.size + 1]? = some (.loop r) → I s (A.putObj (w.heap.size + 1) o)) (hIxp : ∀ c s A r o, Ix c s A → A.heap[w.heap.size + 1]? = some (.loop r) → Ix c s (A.putObj (w.heap.size + 1) o)) (h0 : I [] w) (a₁ : α → Act)
    (hassign : ∀ (l : Nat) (x : α) (W : World) (K : Act → World → Prop), K (a₁ x) W →
      assign.wpIn (F.inRound l) (n - 1 - 1) P (Exit.then K (fun _ _ _ => False)) { tmps := (ps.zip (encs x)).foldl (fun t (p, v) => t.setIfInBounds p v) a.tmps, defers := [] } W)
    (hbody : ∀ (l : Nat) (pre : List α) (x : α) (W : World), I pre W → w.heap.size + 1 < W.heap.size → (∃ o, W.heap[w.heap.size]? = some (.deferred o)) → (∃ r, W.heap[w.heap.size + 1]? = some (.loop r)) → Pp pre x → body.wpIn (F.inRound l) (n - 1 - 1) P (prePost w.heap.size Kp I Ix (pre ++ [x]) W) (a₁ x) W)
    (hdone : ∀ (D : Nat) (xs : List α) (W : World), S xs → I xs W → w.heap.size ≤ D → W.heap[D]? = some (.deferred (some [])) → Q .normal { a with defers := { target := .collected D, args := #[] } :: a.defers } W)
    (hstop : ∀ (D : Nat) (c : Code) (pre : List α) (W : World), Ix c pre W → w.heap.size ≤ D → W.heap[D]? = some (.deferred (some [])) → c.wpIn F n P Q { a with defers := { target := .collected D, args := #[] } :: a.defers } W) :
    (Code.rangeFunc g ps assign body).wpIn F n P Q a w := by
  refine wpIn_rangeFunc ?_
  intro fn hfn
  rw [hro]
  obtain ⟨rec, hrec⟩ : ∃ rec : LoopState → Option Code → Loop, rec = fun st pe => { state := st, pending := pe, fn, tmps := a.tmps, params := ps, assign, body, defers := w.heap.size } := ⟨_, rfl⟩
  obtain ⟨W1, hW1⟩ : ∃ W1, (w.alloc (.deferred (some []))).alloc (.loop (rec .ready none)) = W1 := ⟨_, rfl⟩
  have hL1 : W1.heap[w.heap.size + 1]? = some (.loop (rec .ready none)) := by
    rw [← hW1]; have := World.alloc_heap_new (w.alloc (.deferred (some []))) (.loop (rec .ready none)); rwa [World.size_alloc] at this
  have hK1 : W1.heap[w.heap.size]? = some (.deferred (some [])) := by
    rw [← hW1]; exact (Below.heap_alloc _ _ _ (by simp)).trans (World.alloc_heap_new w _)
  have hb1 : Below w.heap.size w W1 := by
    rw [← hW1]; exact ((Below.refl _ w).alloc (Nat.le_refl _) _).alloc (by simp) _
  have hI1 : I [] W1 := hI _ _ _ h0 hb1
  refine ⟨w.heap.size + 1, [{ target := .collected w.heap.size, args := #[] }], W1, { target := .fn (.func gf) lb, args := #[.func (.yield (w.heap.size + 1)) #[] #[]] }, W1, gf,
    #[.func (.yield (w.heap.size + 1)) #[] #[]] ++ lb, W1, ?_, ?_, ?_, ?_, fun _ => h1, ?_⟩
  · rw [← hW1, hrec]; exact run_enterLoop_outer _ _ _ _ _
  · simp only [resolve, hg]
    simp [go_sem]
  · intro f' hf'; simp [Target.leads] at hf'; subst hf'; exact hFg
  · simp [invoke, go_sem, eg]
  · refine (hseq (w.heap.size + 1)
      (fun pre W => I pre W ∧ W.heap[w.heap.size + 1]? = some (.loop (rec .ready none)) ∧ W.heap[w.heap.size]? = some (.deferred (some [])))
      (fun pre W => ∃ c, Ix c pre W ∧ W.heap[w.heap.size + 1]? = some (.loop (rec .done (some c))) ∧ W.heap[w.heap.size]? = some (.deferred (some [])))
      W1 hb1
      (fun s A B hs hb => ⟨hI s A B hs.1 hb, (hb.block _ (Array.getElem?_eq_some_iff.1 hs.2.1).1).trans hs.2.1, (hb.block _ (Array.getElem?_eq_some_iff.1 hs.2.2).1).trans hs.2.2⟩)
      ?_ ⟨hI1, hL1, hK1⟩).mono ?_
    · -- one round
      rintro pre x W ⟨hi, hl, hk⟩ hpx
      have hlt : w.heap.size + 1 < W.heap.size := (Array.getElem?_eq_some_iff.1 hl).1
      have hy := run_yield (P := P) (args := encs x) hl (by rw [hrec]; exact hps x)
      rw [hrec] at hy
      refine ⟨fn, _, assign, body, hy, roundIn_of_wpIn hfn (hassign _ x W _ ⟨_, run_beginRound hl (by rw [hrec]), ?_⟩)⟩
      have hl2 : (W.putObj (w.heap.size + 1) (.loop { rec .ready none with state := .busy })).heap[w.heap.size + 1]? = some (.loop { rec .ready none with state := .busy }) := World.putObj_heap_same hlt
      have hk2 : (W.putObj (w.heap.size + 1) (.loop { rec .ready none with state := .busy })).heap[w.heap.size]? = some (.deferred (some [])) := (World.putObj_heap_other (by omega)).trans hk
      have hsz2 : (W.putObj (w.heap.size + 1) (.loop { rec .ready none with state := .busy })).heap.size = W.heap.size := by simp
      refine wpIn_mono (hbody _ pre x _ (hIp _ _ _ _ hi hl) (by rw [hsz2]; exact hlt) ⟨_, hk2⟩ ⟨_, hl2⟩ hpx) ?_
      have fin : ∀ (jump : Option Code) (W3 : World), Two2 w.heap.size (W.putObj (w.heap.size + 1) (.loop { rec .ready none with state := .busy })) W3 →
          (Instr.endRound (w.heap.size + 1) jump).run P W3 = .ok (.bool jump.isNone) (W3.putObj (w.heap.size + 1) (.loop (rec (if jump.isNone then .ready else .done) jump))) ∧
          W3.heap[w.heap.size + 1]? = some (.loop { rec .ready none with state := .busy }) ∧
          (W3.putObj (w.heap.size + 1) (.loop (rec (if jump.isNone then .ready else .done) jump))).heap[w.heap.size + 1]? = some (.loop (rec (if jump.isNone then .ready else .done) jump)) ∧
          (W3.putObj (w.heap.size + 1) (.loop (rec (if jump.isNone then .ready else .done) jump))).heap[w.heap.size]? = some (.deferred (some [])) := fun jump W3 hk3 => by
        have hl3 := hk3.2.trans hl2
        have := run_endRound (P := P) jump hl3
        rw [hrec] at this ⊢
        exact ⟨this, by rw [hrec] at hl3; exact hl3, World.putObj_heap_same (Array.getElem?_eq_some_iff.1 hl3).1, (World.putObj_heap_other (by omega)).trans (hk3.1.trans hk2)⟩
      rintro e a3 W3 hp
      cases e with
      | normal =>
        obtain ⟨h2, hk3, hi3⟩ := hp
        obtain ⟨hr, hl3, hl4, hk4⟩ := fin none W3 h2
        exact ⟨_, _, hr, .inl ⟨rfl, ⟨hIp _ _ _ _ hi3 hl3, hl4, hk4⟩, hKt (hKt (hKp W _) hk3) (hKp W3 _)⟩⟩
      | ret =>
        obtain ⟨h2, hi3⟩ := hp
        obtain ⟨hr, hl3, hl4, hk4⟩ := fin (some .ret) W3 h2
        exact ⟨_, _, hr, .inr ⟨rfl, ⟨.ret, hIxp _ _ _ _ _ hi3 hl3, hl4, hk4⟩⟩⟩
      | exit id =>
        obtain ⟨h2, hi3⟩ := hp
        obtain ⟨hr, hl3, hl4, hk4⟩ := fin (some (.exit id)) W3 h2
        exact ⟨_, _, hr, .inr ⟨rfl, ⟨.exit id, hIxp _ _ _ _ _ hi3 hl3, hl4, hk4⟩⟩⟩
      | goto t =>
        obtain ⟨h2, hi3⟩ := hp
        obtain ⟨hr, hl3, hl4, hk4⟩ := fin (some (.goto t)) W3 h2
        exact ⟨_, _, hr, .inr ⟨rfl, ⟨.goto t, hIxp _ _ _ _ _ hi3 hl3, hl4, hk4⟩⟩⟩
      | panic ch => exact hp.elim
      | outgrown => exact hp.elim
    · -- behind the iterator
      rintro e W2 ⟨⟨v, rfl⟩, (⟨xs, hS, hi, hl, hk⟩ | ⟨pre, c, hi, hl, hk⟩)⟩
      · exact ⟨none, _, by have := run_endLoop (P := P) hl (by rw [hrec]; simp); rw [hrec] at this; exact this, hdone _ xs _ hS (hIp _ _ _ _ hi hl) (Nat.le_refl _) ((World.putObj_heap_other (by omega)).trans hk)⟩
      · exact ⟨some c, _, by have := run_endLoop (P := P) hl (by rw [hrec]; simp); rw [hrec] at this; exact this, hstop _ c pre _ (hIxp _ _ _ _ _ hi hl) (Nat.le_refl _) ((World.putObj_heap_other (by omega)).trans hk)⟩

/-- Masks in a slice: its first d cells are R 0, R 1, .. -/
structure RingsAt (w : World) (gb cap d : Nat) (R : Nat → Nat) : Prop where
  le : d ≤ cap
  max : cap ≤ maxLen
  cells : ∀ i, i < d → w.cell? ⟨gb, i, none⟩ = some (.int .u32 (R i : Int))
theorem RingsAt.keep {w w' : World} {gb cap d : Nat} {R : Nat → Nat} (h : RingsAt w gb cap d R) (hb : Below w.heap.size w w') : RingsAt w' gb cap d R := ⟨h.le, h.max, fun i hi => cell_keep hb (h.cells i hi)⟩

theorem backward_any (gb cap d : Nat) (w : World) :
    Calls Tryz.prog 281 #[.slice (some ⟨gb, 0, none⟩) d cap] w fun e w' =>
      e = .returned (.func (.func 305) #[] #[.pointer (some ⟨w.heap.size, 0, none⟩)]) ∧
      w' = w.alloc (.cells #[.slice (some ⟨gb, 0, none⟩) d cap] 222) := by
  have hmf : ∀ (fn : Fn) (first cap : Array Value) (w : World), (Instr.makeFunc fn first cap).run Tryz.prog w = .ok (.func fn first cap) w := fun _ _ _ _ => rfl
  go_enter Tryz.func281, Tryz.ntmps281
  go_wp2
  go_ret
  exact ⟨rfl, rfl⟩

/-- A place and its mask, as yield takes them. -/
def encB (R : Nat → Nat) (i : Nat) : Array Value := #[.int .i64 (i : Int), .int .u32 (R i : Int)]
/-- From the last place to the first, so many of them. -/
def downTo (d : Nat) : Nat → List Nat
  | 0 => []
  | k + 1 => downTo d k ++ [d - 1 - k]
theorem downTo_len (d k : Nat) : (downTo d k).length = k := by
  induction k with
  | zero => rfl
  | succ k ih => simp [downTo, ih]

/-- What the iterator reads. -/
structure BackIn (w : World) (pb gb cap d : Nat) (R : Nat → Nat) : Prop where
  box : w.cell? ⟨pb, 0, none⟩ = some (.slice (some ⟨gb, 0, none⟩) d cap)
  rings : RingsAt w gb cap d R
theorem BackIn.keep {w w' : World} {pb gb cap d : Nat} {R : Nat → Nat} (h : BackIn w pb gb cap d R) (hb : Below w.heap.size w w') : BackIn w' pb gb cap d R := ⟨cell_keep hb h.box, h.rings.keep hb⟩
theorem BackIn.but {w w' : World} {pb gb cap d : Nat} {R : Nat → Nat} (h : BackIn w pb gb cap d R) (hb : KeepsBut (fun k => k ≠ pb ∧ k ≠ gb) w w') : BackIn w' pb gb cap d R :=
  ⟨hb.cell (fun h => h.1 rfl) h.box, h.rings.le, h.rings.max, fun i hi => hb.cell (fun h => h.2 rfl) (h.rings.cells i hi)⟩

set_option maxHeartbeats 4000000 in
set_option maxRecDepth 100000 in
theorem backward1_seq (m pb gb cap d : Nat) (R : Nat → Nat) (w : World) (hd : d ≤ 1000) (hin : BackIn w pb gb cap d R) :
    SeqPre Fence.wide m Tryz.prog 305 #[.pointer (some ⟨pb, 0, none⟩)] (encB R) (KeepsBut (fun k => k ≠ pb ∧ k ≠ gb)) (fun pre x => pre.length < d ∧ x = d - 1 - pre.length) (fun xs => xs = downTo d d) w := by
  intro l J Jx W hW hJ hY h0
  have hin1 := hin.keep hW
  have kt := hin1.box
  have HIN := Lib.hid hin1
  have HY := Lib.hid hY
  have H0 := Lib.hid h0
  have hwd : IntKind.i64.wrap ((d : Int) - 1) = (d : Int) - 1 := IntWalk.i64_in _ (by omega)
  clear hin hW hJ hY h0 hin1
  refine callsIn_of_wp Tryz.func305 rfl trivial ?_ rfl
  simp only [Tryz.ntmps305, List.size_toArray, List.length_cons, List.length_nil, Nat.reduceAdd, Nat.reduceSub, Array.replicate_succ, Array.replicate_zero, List.push_toArray, List.append_toArray, List.nil_append, List.cons_append]
  gi_wp2
  clear kt
  gi_loopw [3] (fun iv wr => ∃ k : Nat, k ≤ d ∧ iv = .int .i64 ((d : Int) - 1 - (k : Int)) ∧ BackIn wr pb gb cap d R ∧ J (downTo d k) wr) (fun iv _ => (intOf iv + 1).toNat)
  case atStart => exact ⟨0, Nat.zero_le _, by simp, HIN.out, H0.out⟩
  case round =>
    obtain ⟨k, hk, rfl, hp, hj⟩ := hrel
    have kt := hp.box
    have HP := Lib.hid hp
    have HJR := Lib.hid hj
    have hlen := downTo_len d k
    clear hp hj HIN H0
    by_cases hkd : k < d
    · obtain ⟨q, hq⟩ : ∃ q : Nat, d - 1 - k = q := ⟨_, rfl⟩
      have hqI : (d : Int) - 1 - (k : Int) = (q : Int) := by omega
      have hqd : q < d := by omega
      have hck := HP.out.rings.cells q hqd
      have hl1 := HP.out.rings.le
      have hl2 := HP.out.rings.max
      have HDS : Hid (downTo d (k + 1) = downTo d k ++ [q]) := by show _ = _; rw [downTo, hq]
      obtain ⟨fn, tmps, assign, body, hy, hR⟩ := HY.out _ q wr HJR.out ⟨by omega, by rw [hlen]; exact hq.symm⟩
      simp only [encB] at hy
      have HR7 := Lib.hid hR
      have hwq : IntKind.i64.wrap ((q : Int) - 1) = (q : Int) - 1 := IntWalk.i64_in _ (by omega)
      rw [hqI]
      have HQ := Lib.hid hqI
      clear hR hqI hq
      gi_wp2
      refine ⟨fun h => (by cases h), HR7.out.mono ?_⟩
      rintro e W3 (⟨rfl, hJ3, hk3⟩ | ⟨rfl, hJx3⟩)
      · have HJ3 := Lib.hid hJ3
        have HP3 := Lib.hid (HP.out.but hk3)
        clear hJ3 hk3 hy hck kt
        gi_wp2
        go_roundw
        case rel => exact ⟨k + 1, by omega, by have := HQ.out; simp; omega, HP3.out, by rw [HDS.out]; exact HJ3.out⟩
        case measure => (first | (simp [intOf]; done) | (simp [intOf]; omega))
      · have HX3 := Lib.hid hJx3
        clear hJx3 hy hck kt
        gi_wp2
        refine bodyPost_ret (results_none rfl _ _ _) rfl ?_
        exact ⟨⟨_, rfl⟩, .inr ⟨_, HX3.out⟩⟩
    · obtain rfl : k = d := by omega
      have hneg : (k : Int) - 1 - (k : Int) = -1 := by omega
      rw [hneg]
      clear hneg
      gi_wp2
      go_end0
      exact ⟨⟨_, rfl⟩, .inl ⟨_, rfl, HJR.out⟩⟩

end Go.Proofs.YtohjfcfcopbmoaaGreatDoor

/- Walks: the least way down the rings. -/
namespace Go.Proofs.YtohjfcfcopbmoaaGreatDoor
open Go.RowKit Go.Shelf
attribute [local go_sem] Oper.semAt_some

section
variable {F : Fence} {n : Nat} {P : Program} {ops : Array Oper} {Q : Exit → Act → World → Prop}
theorem anyIn_three {fuel : Nat} {listed : Array Bool} {a : Act} {w : World} (i j k : Nat) (hr : Region.ready .any ops listed = [i, j, k]) (h : wpOpIn F n P ops Q i (wpAnyIn F n P .any ops Q fuel (listed.setIfInBounds i true)) a w)
    (h' : wpOpIn F n P ops Q j (wpAnyIn F n P .any ops Q fuel (listed.setIfInBounds j true)) a w) (h'' : wpOpIn F n P ops Q k (wpAnyIn F n P .any ops Q fuel (listed.setIfInBounds k true)) a w) : wpAnyIn F n P .any ops Q (fuel + 1) listed a w := by
  refine ⟨fun h0 => (by rw [hr] at h0; cases h0), fun m hm => ?_⟩
  rw [hr] at hm
  simp at hm
  rcases hm with rfl | rfl | rfl
  · exact h
  · exact h'
  · exact h''
theorem anyIn_four {fuel : Nat} {listed : Array Bool} {a : Act} {w : World} (i j k q : Nat) (hr : Region.ready .any ops listed = [i, j, k, q]) (h : wpOpIn F n P ops Q i (wpAnyIn F n P .any ops Q fuel (listed.setIfInBounds i true)) a w)
    (h' : wpOpIn F n P ops Q j (wpAnyIn F n P .any ops Q fuel (listed.setIfInBounds j true)) a w) (h'' : wpOpIn F n P ops Q k (wpAnyIn F n P .any ops Q fuel (listed.setIfInBounds k true)) a w)
    (h3 : wpOpIn F n P ops Q q (wpAnyIn F n P .any ops Q fuel (listed.setIfInBounds q true)) a w) : wpAnyIn F n P .any ops Q (fuel + 1) listed a w := by
  refine ⟨fun h0 => (by rw [hr] at h0; cases h0), fun m hm => ?_⟩
  rw [hr] at hm
  simp at hm
  rcases hm with rfl | rfl | rfl | rfl
  · exact h
  · exact h'
  · exact h''
  · exact h3
end

/-- The way down, half done. -/
def DI (w : World) (bn : Nat) (M R : Nat → Nat) (d u i : Nat) (W : World) : Prop :=
  (∃ sv, W.heap[w.heap.size + 4]? = some (.cells #[sv] 222 (0, 0))) ∧ W.heap[w.heap.size]? = some (.cells #[.pointer (some ⟨bn, 0, none⟩)] 191 (0, 0)) ∧ W.heap[w.heap.size + 1]? = some (.cells #[.int .i64 (curD M R d u i : Int)] 2 (0, 0)) ∧
  (∃ val, W.heap[w.heap.size + 3]? = some (.cells #[val] 33 (0, 0)) ∧ OwnRow 2 W (w.heap.size + 2) val (wayD M R d u i)) ∧ Below w.heap.size w W
theorem DI.grow {w : World} {bn : Nat} {M R : Nat → Nat} {d u i : Nat} {A B : World} (h : DI w bn M R d u i A) (hb : Below A.heap.size A B) : DI w bn M R d u i B := by
  obtain ⟨⟨sv, hsv⟩, h1, h2, ⟨val, h3, h4⟩, h5⟩ := h
  have hk : ∀ k o, A.heap[k]? = some o → B.heap[k]? = some o := fun k o hh => (hb.block k (Array.getElem?_eq_some_iff.1 hh).1).trans hh
  exact ⟨⟨sv, hk _ _ hsv⟩, hk _ _ h1, hk _ _ h2, ⟨val, hk _ _ h3, h4.keep hb⟩, h5.trans (hb.mono h5.size)⟩
theorem DI.put {w : World} {bn : Nat} {M R : Nat → Nat} {d u i : Nat} {A : World} {l : Nat} {r : Loop} (h : DI w bn M R d u i A) (hl : w.heap.size ≤ l) (ho : A.heap[l]? = some (.loop r)) (o : Obj) : DI w bn M R d u i (A.putObj l o) := by
  obtain ⟨⟨sv, hsv⟩, h1, h2, ⟨val, h3, h4⟩, h5⟩ := h
  have hk : ∀ (k : Nat) (cs : Array Value) (U : TypeId) (fr : Nat × Nat), A.heap[k]? = some (Obj.cells cs U fr) → (A.putObj l o).heap[k]? = some (Obj.cells cs U fr) := fun k cs U fr hh => by
    refine (World.putObj_heap_other (fun e => ?_)).trans hh
    subst e; rw [ho] at hh; cases hh
  exact ⟨⟨sv, hk _ _ _ _ hsv⟩, hk _ _ _ _ h1, hk _ _ _ _ h2, ⟨val, hk _ _ _ _ h3, h4.kept (fun k cs fr => hk k cs _ fr)⟩, h5.trans (below_put A l o hl (Array.getElem?_eq_some_iff.1 ho).1)⟩

set_option maxHeartbeats 8000000 in
set_option maxRecDepth 100000 in
theorem descent_any (bn n gb cap d u : Nat) (M R : Nat → Nat) (w : World) (h : NetAt w bn n M) (hT : TabAt w) (hM : ∀ i, M i < 65536) (hR : ∀ i, R i < 65536) (hd : d ≤ 100) (hrg : RingsAt w gb cap d R) (hgb : gb < w.heap.size)
    (hc : ∀ i, i ≤ d → curD M R d u i < 16) (hne : ∀ i, i < d → M (curD M R d u i) &&& R (d - 1 - i) ≠ 0) :
    Calls Tryz.prog 240 #[.pointer (some ⟨bn, 0, none⟩), .int .i64 (u : Int), .slice (some ⟨gb, 0, none⟩) d cap] w (GaveRow w (wayD M R d u d)) := by
  obtain ⟨i0, hi, hz0, hz1, hz2⟩ := info_parts Tryz.infoI
  have hbn : bn < w.heap.size := block_lt_of_cell h.1
  have hu16 : u < 16 := hc 0 (Nat.zero_le _)
  refine calls_marks Tryz.func240 rfl ?_
  simp only [Tryz.ntmps240, List.size_toArray, List.length_cons, List.length_nil, Nat.reduceAdd, Nat.reduceSub, Array.replicate_succ, Array.replicate_zero, List.push_toArray, List.append_toArray, List.nil_append, List.cons_append]
  go_wp2_with (go_at_call 281; refine (backward_any _ _ _ _).mono ?_; rintro e w' ⟨rfl, rfl⟩)
  obtain ⟨w5, hw5⟩ : ∃ w5, ((((w.alloc (.cells #[.pointer (some ⟨bn, 0, none⟩)] 191)).alloc (.cells #[.int .i64 (u : Int)] 2)).alloc (.cells #[.int .i64 (u : Int)] 2)).alloc (.cells #[.slice (some ⟨w.heap.size + 1 + 1, 0, none⟩) 1 1] 33)).alloc (.cells #[.slice (some ⟨gb, 0, none⟩) d cap] 222) = w5 := ⟨_, rfl⟩
  have hb5 : Below w.heap.size w w5 := by rw [← hw5]; exact (((((Below.refl _ _).alloc (Nat.le_refl _) _).alloc (by simp) _).alloc (by simp; omega) _).alloc (by simp; omega) _).alloc (by simp; omega) _
  have hs5 : w5.heap.size = w.heap.size + 5 := by rw [← hw5]; simp
  have H0 : Hid (DI w bn M R d u 0 w5) := by
    refine ⟨⟨.slice (some ⟨gb, 0, none⟩) d cap, ?_⟩, ?_, ?_, ⟨.slice (some ⟨w.heap.size + 1 + 1, 0, none⟩) 1 1, ?_, ?_⟩, hb5⟩
    · rw [← hw5]
      have h1 := World.alloc_heap_new ((((w.alloc (.cells #[.pointer (some ⟨bn, 0, none⟩)] 191)).alloc (.cells #[.int .i64 (u : Int)] 2)).alloc (.cells #[.int .i64 (u : Int)] 2)).alloc (.cells #[.slice (some ⟨w.heap.size + 1 + 1, 0, none⟩) 1 1] 33)) (.cells #[.slice (some ⟨gb, 0, none⟩) d cap] 222)
      simp only [World.size_alloc] at h1
      exact h1
    · rw [← hw5]
      exact ((((Below.refl (w.heap.size + 1) _).alloc (by simp) _).alloc (by simp) _).alloc (by simp <;> omega) _ |>.alloc (by simp <;> omega) _).block _ (by omega) |>.trans (World.alloc_heap_new w _)
    · rw [← hw5]
      have h1 := World.alloc_heap_new (w.alloc (.cells #[.pointer (some ⟨bn, 0, none⟩)] 191)) (.cells #[.int .i64 (u : Int)] 2)
      rw [World.size_alloc] at h1
      exact (((Below.refl (w.heap.size + 2) _).alloc (by simp) _).alloc (by simp) _ |>.alloc (by simp <;> omega) _).block _ (by omega) |>.trans h1
    · rw [← hw5]
      have h1 := World.alloc_heap_new (((w.alloc (.cells #[.pointer (some ⟨bn, 0, none⟩)] 191)).alloc (.cells #[.int .i64 (u : Int)] 2)).alloc (.cells #[.int .i64 (u : Int)] 2)) (.cells #[.slice (some ⟨w.heap.size + 1 + 1, 0, none⟩) 1 1] 33)
      simp only [World.size_alloc] at h1
      exact (Below.heap_alloc _ _ _ (by simp)).trans h1
    · have h1 := World.ownsRow_lit ((w.alloc (.cells #[.pointer (some ⟨bn, 0, none⟩)] 191)).alloc (.cells #[.int .i64 (u : Int)] 2)) #[.int .i64 (u : Int)] (e := 2) (size := 1) 1 (base := w.heap.size + 2) (by simp) (by unfold maxLen; omega) rfl
      simp only [World.size_alloc] at h1
      have h2 : OwnRow 2 _ (w.heap.size + 2) (.slice (some ⟨w.heap.size + 1 + 1, 0, none⟩) 1 1) [(u : Int)] := OwnRow.of_ownsRow (n := 1) (xs := [(u : Int)]) h1 (by simp; unfold maxLen; omega) (fun x hx => by simp at hx; subst hx; unfold I64; omega)
      rw [wayD_zero]
      refine h2.keep ?_
      rw [← hw5]
      exact ((Below.refl _ _).alloc (Nat.le_refl _) _).alloc (by simp) _
  have HBI : Hid (BackIn w5 (w.heap.size + 4) gb cap d R) := by
    refine ⟨?_, hrg.keep hb5⟩
    subst hw5; go_simp
  have HSQ := Lib.hid (backward1_seq 8 (w.heap.size + 4) gb cap d R w5 (by omega) HBI.out)
  have HNK : Hid (∀ W, Below w.heap.size w W → NetAt W bn n M ∧ TabAt W) := fun W hW => ⟨h.keep hW, hT.keep hW⟩
  have HC := Lib.hid hc
  have HNE := Lib.hid hne
  simp only [Nat.add_assoc, Nat.reduceAdd] at *
  rw [hw5]
  clear hw5 HBI hb5 h hT hrg hc hne
  have hmix : Tryz.prog.follows .mixedOrders = true := by kernel_rfl
  refine (wpIn_wide (n := 9)).1 ?_
  refine wpIn_rangeFunc_pre rfl (by omega) (gf := 305) (lb := #[.pointer (some ⟨w.heap.size + 4, 0, none⟩)]) rfl trivial (enters_of Tryz.func305 (by kernel_rfl) rfl)
    HSQ.out (fun h k => h.trans k) (fun W o => KeepsBut.putObj W _ o ⟨by omega, by omega⟩) (fun _ => rfl)
    (fun pre W => DI w bn M R d u pre.length W)
    (fun _ _ _ => False)
    (fun _ _ _ hs hb => hs.grow hb)
    (fun _ _ _ o hs hl => hs.put (by omega) hl o)
    (fun _ _ _ _ _ h _ => h)
    H0.out
    ?a1 ?assign ?body ?done ?stop
  case assign =>
    intro l x W K hK
    simp only [encB]
    gi_wp2
    exact hK
  case body =>
    rintro l pre x W ⟨⟨sv, hsv⟩, h1, h2, ⟨val, h3, h4⟩, hb⟩ hsz ⟨oD, hoD⟩ ⟨oL, hoL⟩ ⟨hlen, rfl⟩
    obtain ⟨i, hi'⟩ : ∃ i, pre.length = i := ⟨_, rfl⟩
    have HCS : Hid (curD M R d u (i + 1) = leastM (M (curD M R d u i) &&& R (d - 1 - i))) := rfl
    have HWS := Lib.hid (wayD_succ M R d u i)
    have HC1 := HC.out (i + 1) (by omega)
    have HPL : Hid ((pre ++ [d - 1 - i]).length = i + 1) := by show _ = _; simp [hi']
    rw [hi'] at h2 h4 hlen ⊢
    have hcur := HC.out i (by omega)
    have hne' := HNE.out i (by omega)
    obtain ⟨c, hcc⟩ : ∃ c, c = curD M R d u i := ⟨_, rfl⟩
    obtain ⟨q, hqq⟩ : ∃ q, q = d - 1 - i := ⟨_, rfl⟩
    rw [← hcc] at h2 hcur hne' HCS
    rw [← hqq] at hne' HCS HPL ⊢
    have hMc := hM c
    have hRq := hR q
    have hand : M c &&& R q < 65536 := Nat.lt_of_le_of_lt Nat.and_le_left hMc
    have hbits : bits BinOp.and IntKind.u32 (M c : Int) (R q : Int) = ((M c &&& R q : Nat) : Int) := u32_and_nat _ _ (by omega) (by omega)
    obtain ⟨hNet, hTab⟩ := HNK.out W hb
    have hm := hNet.2 c hcur
    have hbt : W.cell? ⟨w.heap.size, 0, none⟩ = some (.pointer (some ⟨bn, 0, none⟩)) := by rw [cell_of_row W _ 0 _ _ _ h1]; rfl
    have hbu : W.cell? ⟨w.heap.size + 1, 0, none⟩ = some (.int .i64 (c : Int)) := by rw [cell_of_row W _ 0 _ _ _ h2]; rfl
    have hfu : W.frozen? ⟨w.heap.size + 1, 0, none⟩ = false := frozen_of_row W _ 0 _ _ h2
    have hc0 : (0 : Int) ≤ (c : Int) := by omega
    have hc16 : (c : Int) < 16 := by omega
    have hwl : w.heap.size + 3 < W.heap.size := (Array.getElem?_eq_some_iff.1 h3).1
    have HSV := Lib.hid hsv
    have H1 := Lib.hid h1
    have H2 := Lib.hid h2
    have H3 := Lib.hid h3
    have H4 := Lib.hid h4
    have HB := Lib.hid hb
    have HTB := Lib.hid hTab
    have HOD := Lib.hid hoD
    have HOL := Lib.hid hoL
    clear hsv h1 h2 h3 h4 hb hTab hNet hoD hoL HC HNE HSQ H0 hcc hqq
    gi_wp2_with fail
    refine wpIn_region_any hmix ?_
    refine lead (G := ?G) ?pre ?tail
    case pre =>
      intro g
      refine anyIn_three 0 1 6 (by kernel_rfl) ?_ ?_ ?_
      · refine opIn_at rfl rfl ?_
        simp [go_sem, Oper.wpIn, Oper.about, Oper.uponIn, hbt]
        refine anyIn_three 1 2 6 (by kernel_rfl) ?_ ?_ ?_
        · refine opIn_at rfl rfl ?_
          simp [go_sem, Oper.wpIn, Oper.about, Oper.uponIn, hbu]
          refine anyIn_two 2 6 (by kernel_rfl) ?_ ?_
          · refine opIn_at rfl rfl ?_
            simp [go_sem, Oper.wpIn, Oper.about, Oper.uponIn]
            refine anyIn_two 3 6 (by kernel_rfl) ?_ ?_
            · refine opIn_at rfl rfl ?_
              simp [go_sem, Oper.wpIn, Oper.about, Oper.uponIn]
              refine anyIn_two 4 6 (by kernel_rfl) ?_ ?_
              · refine opIn_at rfl rfl ?_
                simp [go_sem, Oper.wpIn, Oper.about, Oper.uponIn, hc16]
                refine anyIn_two 5 6 (by kernel_rfl) ?_ ?_
                · refine opIn_at rfl rfl ?_
                  simp [go_sem, Oper.wpIn, Oper.about, Oper.uponIn, hm]
                  refine anyIn_one 6 (by kernel_rfl) ?_
                  refine opIn_at rfl rfl ?_
                  simp [go_sem, Oper.wpIn, Oper.about, Oper.uponIn]
                  refine anyIn_one 7 (by kernel_rfl) ?_
                  refine opIn_at rfl rfl ?_
                  simp [go_sem, Oper.wpIn, Oper.about, Oper.uponIn, hbits]
                  exact g
                · refine opIn_at rfl rfl ?_
                  simp [go_sem, Oper.wpIn, Oper.about, Oper.uponIn]
                  refine anyIn_one 5 (by kernel_rfl) ?_
                  refine opIn_at rfl rfl ?_
                  simp [go_sem, Oper.wpIn, Oper.about, Oper.uponIn, hm]
                  refine anyIn_one 7 (by kernel_rfl) ?_
                  refine opIn_at rfl rfl ?_
                  simp [go_sem, Oper.wpIn, Oper.about, Oper.uponIn, hbits]
                  exact g
              · refine opIn_at rfl rfl ?_
                simp [go_sem, Oper.wpIn, Oper.about, Oper.uponIn]
                refine anyIn_one 4 (by kernel_rfl) ?_
                refine opIn_at rfl rfl ?_
                simp [go_sem, Oper.wpIn, Oper.about, Oper.uponIn, hc16]
                refine anyIn_one 5 (by kernel_rfl) ?_
                refine opIn_at rfl rfl ?_
                simp [go_sem, Oper.wpIn, Oper.about, Oper.uponIn, hm]
                refine anyIn_one 7 (by kernel_rfl) ?_
                refine opIn_at rfl rfl ?_
                simp [go_sem, Oper.wpIn, Oper.about, Oper.uponIn, hbits]
                exact g
            · refine opIn_at rfl rfl ?_
              simp [go_sem, Oper.wpIn, Oper.about, Oper.uponIn]
              refine anyIn_one 3 (by kernel_rfl) ?_
              refine opIn_at rfl rfl ?_
              simp [go_sem, Oper.wpIn, Oper.about, Oper.uponIn]
              refine anyIn_one 4 (by kernel_rfl) ?_
              refine opIn_at rfl rfl ?_
              simp [go_sem, Oper.wpIn, Oper.about, Oper.uponIn, hc16]
              refine anyIn_one 5 (by kernel_rfl) ?_
              refine opIn_at rfl rfl ?_
              simp [go_sem, Oper.wpIn, Oper.about, Oper.uponIn, hm]
              refine anyIn_one 7 (by kernel_rfl) ?_
              refine opIn_at rfl rfl ?_
              simp [go_sem, Oper.wpIn, Oper.about, Oper.uponIn, hbits]
              exact g
          · refine opIn_at rfl rfl ?_
            simp [go_sem, Oper.wpIn, Oper.about, Oper.uponIn]
            refine anyIn_one 2 (by kernel_rfl) ?_
            refine opIn_at rfl rfl ?_
            simp [go_sem, Oper.wpIn, Oper.about, Oper.uponIn]
            refine anyIn_one 3 (by kernel_rfl) ?_
            refine opIn_at rfl rfl ?_
            simp [go_sem, Oper.wpIn, Oper.about, Oper.uponIn]
            refine anyIn_one 4 (by kernel_rfl) ?_
            refine opIn_at rfl rfl ?_
            simp [go_sem, Oper.wpIn, Oper.about, Oper.uponIn, hc16]
            refine anyIn_one 5 (by kernel_rfl) ?_
            refine opIn_at rfl rfl ?_
            simp [go_sem, Oper.wpIn, Oper.about, Oper.uponIn, hm]
            refine anyIn_one 7 (by kernel_rfl) ?_
            refine opIn_at rfl rfl ?_
            simp [go_sem, Oper.wpIn, Oper.about, Oper.uponIn, hbits]
            exact g
        · refine opIn_at rfl rfl ?_
          simp [go_sem, Oper.wpIn, Oper.about, Oper.uponIn]
          refine anyIn_three 1 3 6 (by kernel_rfl) ?_ ?_ ?_
          · refine opIn_at rfl rfl ?_
            simp [go_sem, Oper.wpIn, Oper.about, Oper.uponIn, hbu]
            refine anyIn_two 3 6 (by kernel_rfl) ?_ ?_
            · refine opIn_at rfl rfl ?_
              simp [go_sem, Oper.wpIn, Oper.about, Oper.uponIn]
              refine anyIn_two 4 6 (by kernel_rfl) ?_ ?_
              · refine opIn_at rfl rfl ?_
                simp [go_sem, Oper.wpIn, Oper.about, Oper.uponIn, hc16]
                refine anyIn_two 5 6 (by kernel_rfl) ?_ ?_
                · refine opIn_at rfl rfl ?_
                  simp [go_sem, Oper.wpIn, Oper.about, Oper.uponIn, hm]
                  refine anyIn_one 6 (by kernel_rfl) ?_
                  refine opIn_at rfl rfl ?_
                  simp [go_sem, Oper.wpIn, Oper.about, Oper.uponIn]
                  refine anyIn_one 7 (by kernel_rfl) ?_
                  refine opIn_at rfl rfl ?_
                  simp [go_sem, Oper.wpIn, Oper.about, Oper.uponIn, hbits]
                  exact g
                · refine opIn_at rfl rfl ?_
                  simp [go_sem, Oper.wpIn, Oper.about, Oper.uponIn]
                  refine anyIn_one 5 (by kernel_rfl) ?_
                  refine opIn_at rfl rfl ?_
                  simp [go_sem, Oper.wpIn, Oper.about, Oper.uponIn, hm]
                  refine anyIn_one 7 (by kernel_rfl) ?_
                  refine opIn_at rfl rfl ?_
                  simp [go_sem, Oper.wpIn, Oper.about, Oper.uponIn, hbits]
                  exact g
              · refine opIn_at rfl rfl ?_
                simp [go_sem, Oper.wpIn, Oper.about, Oper.uponIn]
                refine anyIn_one 4 (by kernel_rfl) ?_
                refine opIn_at rfl rfl ?_
                simp [go_sem, Oper.wpIn, Oper.about, Oper.uponIn, hc16]
                refine anyIn_one 5 (by kernel_rfl) ?_
                refine opIn_at rfl rfl ?_
                simp [go_sem, Oper.wpIn, Oper.about, Oper.uponIn, hm]
                refine anyIn_one 7 (by kernel_rfl) ?_
                refine opIn_at rfl rfl ?_
                simp [go_sem, Oper.wpIn, Oper.about, Oper.uponIn, hbits]
                exact g
            · refine opIn_at rfl rfl ?_
              simp [go_sem, Oper.wpIn, Oper.about, Oper.uponIn]
              refine anyIn_one 3 (by kernel_rfl) ?_
              refine opIn_at rfl rfl ?_
              simp [go_sem, Oper.wpIn, Oper.about, Oper.uponIn]
              refine anyIn_one 4 (by kernel_rfl) ?_
              refine opIn_at rfl rfl ?_
              simp [go_sem, Oper.wpIn, Oper.about, Oper.uponIn, hc16]
              refine anyIn_one 5 (by kernel_rfl) ?_
              refine opIn_at rfl rfl ?_
              simp [go_sem, Oper.wpIn, Oper.about, Oper.uponIn, hm]
              refine anyIn_one 7 (by kernel_rfl) ?_
              refine opIn_at rfl rfl ?_
              simp [go_sem, Oper.wpIn, Oper.about, Oper.uponIn, hbits]
              exact g
          · refine opIn_at rfl rfl ?_
            simp [go_sem, Oper.wpIn, Oper.about, Oper.uponIn]
            refine anyIn_two 1 6 (by kernel_rfl) ?_ ?_
            · refine opIn_at rfl rfl ?_
              simp [go_sem, Oper.wpIn, Oper.about, Oper.uponIn, hbu]
              refine anyIn_two 4 6 (by kernel_rfl) ?_ ?_
              · refine opIn_at rfl rfl ?_
                simp [go_sem, Oper.wpIn, Oper.about, Oper.uponIn, hc16]
                refine anyIn_two 5 6 (by kernel_rfl) ?_ ?_
                · refine opIn_at rfl rfl ?_
                  simp [go_sem, Oper.wpIn, Oper.about, Oper.uponIn, hm]
                  refine anyIn_one 6 (by kernel_rfl) ?_
                  refine opIn_at rfl rfl ?_
                  simp [go_sem, Oper.wpIn, Oper.about, Oper.uponIn]
                  refine anyIn_one 7 (by kernel_rfl) ?_
                  refine opIn_at rfl rfl ?_
                  simp [go_sem, Oper.wpIn, Oper.about, Oper.uponIn, hbits]
                  exact g
                · refine opIn_at rfl rfl ?_
                  simp [go_sem, Oper.wpIn, Oper.about, Oper.uponIn]
                  refine anyIn_one 5 (by kernel_rfl) ?_
                  refine opIn_at rfl rfl ?_
                  simp [go_sem, Oper.wpIn, Oper.about, Oper.uponIn, hm]
                  refine anyIn_one 7 (by kernel_rfl) ?_
                  refine opIn_at rfl rfl ?_
                  simp [go_sem, Oper.wpIn, Oper.about, Oper.uponIn, hbits]
                  exact g
              · refine opIn_at rfl rfl ?_
                simp [go_sem, Oper.wpIn, Oper.about, Oper.uponIn]
                refine anyIn_one 4 (by kernel_rfl) ?_
                refine opIn_at rfl rfl ?_
                simp [go_sem, Oper.wpIn, Oper.about, Oper.uponIn, hc16]
                refine anyIn_one 5 (by kernel_rfl) ?_
                refine opIn_at rfl rfl ?_
                simp [go_sem, Oper.wpIn, Oper.about, Oper.uponIn, hm]
                refine anyIn_one 7 (by kernel_rfl) ?_
                refine opIn_at rfl rfl ?_
                simp [go_sem, Oper.wpIn, Oper.about, Oper.uponIn, hbits]
                exact g
            · refine opIn_at rfl rfl ?_
              simp [go_sem, Oper.wpIn, Oper.about, Oper.uponIn]
              refine anyIn_one 1 (by kernel_rfl) ?_
              refine opIn_at rfl rfl ?_
              simp [go_sem, Oper.wpIn, Oper.about, Oper.uponIn, hbu]
              refine anyIn_one 4 (by kernel_rfl) ?_
              refine opIn_at rfl rfl ?_
              simp [go_sem, Oper.wpIn, Oper.about, Oper.uponIn, hc16]
              refine anyIn_one 5 (by kernel_rfl) ?_
              refine opIn_at rfl rfl ?_
              simp [go_sem, Oper.wpIn, Oper.about, Oper.uponIn, hm]
              refine anyIn_one 7 (by kernel_rfl) ?_
              refine opIn_at rfl rfl ?_
              simp [go_sem, Oper.wpIn, Oper.about, Oper.uponIn, hbits]
              exact g
          · refine opIn_at rfl rfl ?_
            simp [go_sem, Oper.wpIn, Oper.about, Oper.uponIn]
            refine anyIn_two 1 3 (by kernel_rfl) ?_ ?_
            · refine opIn_at rfl rfl ?_
              simp [go_sem, Oper.wpIn, Oper.about, Oper.uponIn, hbu]
              refine anyIn_one 3 (by kernel_rfl) ?_
              refine opIn_at rfl rfl ?_
              simp [go_sem, Oper.wpIn, Oper.about, Oper.uponIn]
              refine anyIn_one 4 (by kernel_rfl) ?_
              refine opIn_at rfl rfl ?_
              simp [go_sem, Oper.wpIn, Oper.about, Oper.uponIn, hc16]
              refine anyIn_one 5 (by kernel_rfl) ?_
              refine opIn_at rfl rfl ?_
              simp [go_sem, Oper.wpIn, Oper.about, Oper.uponIn, hm]
              refine anyIn_one 7 (by kernel_rfl) ?_
              refine opIn_at rfl rfl ?_
              simp [go_sem, Oper.wpIn, Oper.about, Oper.uponIn, hbits]
              exact g
            · refine opIn_at rfl rfl ?_
              simp [go_sem, Oper.wpIn, Oper.about, Oper.uponIn]
              refine anyIn_one 1 (by kernel_rfl) ?_
              refine opIn_at rfl rfl ?_
              simp [go_sem, Oper.wpIn, Oper.about, Oper.uponIn, hbu]
              refine anyIn_one 4 (by kernel_rfl) ?_
              refine opIn_at rfl rfl ?_
              simp [go_sem, Oper.wpIn, Oper.about, Oper.uponIn, hc16]
              refine anyIn_one 5 (by kernel_rfl) ?_
              refine opIn_at rfl rfl ?_
              simp [go_sem, Oper.wpIn, Oper.about, Oper.uponIn, hm]
              refine anyIn_one 7 (by kernel_rfl) ?_
              refine opIn_at rfl rfl ?_
              simp [go_sem, Oper.wpIn, Oper.about, Oper.uponIn, hbits]
              exact g
        · refine opIn_at rfl rfl ?_
          simp [go_sem, Oper.wpIn, Oper.about, Oper.uponIn]
          refine anyIn_two 1 2 (by kernel_rfl) ?_ ?_
          · refine opIn_at rfl rfl ?_
            simp [go_sem, Oper.wpIn, Oper.about, Oper.uponIn, hbu]
            refine anyIn_one 2 (by kernel_rfl) ?_
            refine opIn_at rfl rfl ?_
            simp [go_sem, Oper.wpIn, Oper.about, Oper.uponIn]
            refine anyIn_one 3 (by kernel_rfl) ?_
            refine opIn_at rfl rfl ?_
            simp [go_sem, Oper.wpIn, Oper.about, Oper.uponIn]
            refine anyIn_one 4 (by kernel_rfl) ?_
            refine opIn_at rfl rfl ?_
            simp [go_sem, Oper.wpIn, Oper.about, Oper.uponIn, hc16]
            refine anyIn_one 5 (by kernel_rfl) ?_
            refine opIn_at rfl rfl ?_
            simp [go_sem, Oper.wpIn, Oper.about, Oper.uponIn, hm]
            refine anyIn_one 7 (by kernel_rfl) ?_
            refine opIn_at rfl rfl ?_
            simp [go_sem, Oper.wpIn, Oper.about, Oper.uponIn, hbits]
            exact g
          · refine opIn_at rfl rfl ?_
            simp [go_sem, Oper.wpIn, Oper.about, Oper.uponIn]
            refine anyIn_two 1 3 (by kernel_rfl) ?_ ?_
            · refine opIn_at rfl rfl ?_
              simp [go_sem, Oper.wpIn, Oper.about, Oper.uponIn, hbu]
              refine anyIn_one 3 (by kernel_rfl) ?_
              refine opIn_at rfl rfl ?_
              simp [go_sem, Oper.wpIn, Oper.about, Oper.uponIn]
              refine anyIn_one 4 (by kernel_rfl) ?_
              refine opIn_at rfl rfl ?_
              simp [go_sem, Oper.wpIn, Oper.about, Oper.uponIn, hc16]
              refine anyIn_one 5 (by kernel_rfl) ?_
              refine opIn_at rfl rfl ?_
              simp [go_sem, Oper.wpIn, Oper.about, Oper.uponIn, hm]
              refine anyIn_one 7 (by kernel_rfl) ?_
              refine opIn_at rfl rfl ?_
              simp [go_sem, Oper.wpIn, Oper.about, Oper.uponIn, hbits]
              exact g
            · refine opIn_at rfl rfl ?_
              simp [go_sem, Oper.wpIn, Oper.about, Oper.uponIn]
              refine anyIn_one 1 (by kernel_rfl) ?_
              refine opIn_at rfl rfl ?_
              simp [go_sem, Oper.wpIn, Oper.about, Oper.uponIn, hbu]
              refine anyIn_one 4 (by kernel_rfl) ?_
              refine opIn_at rfl rfl ?_
              simp [go_sem, Oper.wpIn, Oper.about, Oper.uponIn, hc16]
              refine anyIn_one 5 (by kernel_rfl) ?_
              refine opIn_at rfl rfl ?_
              simp [go_sem, Oper.wpIn, Oper.about, Oper.uponIn, hm]
              refine anyIn_one 7 (by kernel_rfl) ?_
              refine opIn_at rfl rfl ?_
              simp [go_sem, Oper.wpIn, Oper.about, Oper.uponIn, hbits]
              exact g
      · refine opIn_at rfl rfl ?_
        simp [go_sem, Oper.wpIn, Oper.about, Oper.uponIn, hbu]
        refine anyIn_two 0 6 (by kernel_rfl) ?_ ?_
        · refine opIn_at rfl rfl ?_
          simp [go_sem, Oper.wpIn, Oper.about, Oper.uponIn, hbt]
          refine anyIn_two 2 6 (by kernel_rfl) ?_ ?_
          · refine opIn_at rfl rfl ?_
            simp [go_sem, Oper.wpIn, Oper.about, Oper.uponIn]
            refine anyIn_two 3 6 (by kernel_rfl) ?_ ?_
            · refine opIn_at rfl rfl ?_
              simp [go_sem, Oper.wpIn, Oper.about, Oper.uponIn]
              refine anyIn_two 4 6 (by kernel_rfl) ?_ ?_
              · refine opIn_at rfl rfl ?_
                simp [go_sem, Oper.wpIn, Oper.about, Oper.uponIn, hc16]
                refine anyIn_two 5 6 (by kernel_rfl) ?_ ?_
                · refine opIn_at rfl rfl ?_
                  simp [go_sem, Oper.wpIn, Oper.about, Oper.uponIn, hm]
                  refine anyIn_one 6 (by kernel_rfl) ?_
                  refine opIn_at rfl rfl ?_
                  simp [go_sem, Oper.wpIn, Oper.about, Oper.uponIn]
                  refine anyIn_one 7 (by kernel_rfl) ?_
                  refine opIn_at rfl rfl ?_
                  simp [go_sem, Oper.wpIn, Oper.about, Oper.uponIn, hbits]
                  exact g
                · refine opIn_at rfl rfl ?_
                  simp [go_sem, Oper.wpIn, Oper.about, Oper.uponIn]
                  refine anyIn_one 5 (by kernel_rfl) ?_
                  refine opIn_at rfl rfl ?_
                  simp [go_sem, Oper.wpIn, Oper.about, Oper.uponIn, hm]
                  refine anyIn_one 7 (by kernel_rfl) ?_
                  refine opIn_at rfl rfl ?_
                  simp [go_sem, Oper.wpIn, Oper.about, Oper.uponIn, hbits]
                  exact g
              · refine opIn_at rfl rfl ?_
                simp [go_sem, Oper.wpIn, Oper.about, Oper.uponIn]
                refine anyIn_one 4 (by kernel_rfl) ?_
                refine opIn_at rfl rfl ?_
                simp [go_sem, Oper.wpIn, Oper.about, Oper.uponIn, hc16]
                refine anyIn_one 5 (by kernel_rfl) ?_
                refine opIn_at rfl rfl ?_
                simp [go_sem, Oper.wpIn, Oper.about, Oper.uponIn, hm]
                refine anyIn_one 7 (by kernel_rfl) ?_
                refine opIn_at rfl rfl ?_
                simp [go_sem, Oper.wpIn, Oper.about, Oper.uponIn, hbits]
                exact g
            · refine opIn_at rfl rfl ?_
              simp [go_sem, Oper.wpIn, Oper.about, Oper.uponIn]
              refine anyIn_one 3 (by kernel_rfl) ?_
              refine opIn_at rfl rfl ?_
              simp [go_sem, Oper.wpIn, Oper.about, Oper.uponIn]
              refine anyIn_one 4 (by kernel_rfl) ?_
              refine opIn_at rfl rfl ?_
              simp [go_sem, Oper.wpIn, Oper.about, Oper.uponIn, hc16]
              refine anyIn_one 5 (by kernel_rfl) ?_
              refine opIn_at rfl rfl ?_
              simp [go_sem, Oper.wpIn, Oper.about, Oper.uponIn, hm]
              refine anyIn_one 7 (by kernel_rfl) ?_
              refine opIn_at rfl rfl ?_
              simp [go_sem, Oper.wpIn, Oper.about, Oper.uponIn, hbits]
              exact g
          · refine opIn_at rfl rfl ?_
            simp [go_sem, Oper.wpIn, Oper.about, Oper.uponIn]
            refine anyIn_one 2 (by kernel_rfl) ?_
            refine opIn_at rfl rfl ?_
            simp [go_sem, Oper.wpIn, Oper.about, Oper.uponIn]
            refine anyIn_one 3 (by kernel_rfl) ?_
            refine opIn_at rfl rfl ?_
            simp [go_sem, Oper.wpIn, Oper.about, Oper.uponIn]
            refine anyIn_one 4 (by kernel_rfl) ?_
            refine opIn_at rfl rfl ?_
            simp [go_sem, Oper.wpIn, Oper.about, Oper.uponIn, hc16]
            refine anyIn_one 5 (by kernel_rfl) ?_
            refine opIn_at rfl rfl ?_
            simp [go_sem, Oper.wpIn, Oper.about, Oper.uponIn, hm]
            refine anyIn_one 7 (by kernel_rfl) ?_
            refine opIn_at rfl rfl ?_
            simp [go_sem, Oper.wpIn, Oper.about, Oper.uponIn, hbits]
            exact g
        · refine opIn_at rfl rfl ?_
          simp [go_sem, Oper.wpIn, Oper.about, Oper.uponIn]
          refine anyIn_one 0 (by kernel_rfl) ?_
          refine opIn_at rfl rfl ?_
          simp [go_sem, Oper.wpIn, Oper.about, Oper.uponIn, hbt]
          refine anyIn_one 2 (by kernel_rfl) ?_
          refine opIn_at rfl rfl ?_
          simp [go_sem, Oper.wpIn, Oper.about, Oper.uponIn]
          refine anyIn_one 3 (by kernel_rfl) ?_
          refine opIn_at rfl rfl ?_
          simp [go_sem, Oper.wpIn, Oper.about, Oper.uponIn]
          refine anyIn_one 4 (by kernel_rfl) ?_
          refine opIn_at rfl rfl ?_
          simp [go_sem, Oper.wpIn, Oper.about, Oper.uponIn, hc16]
          refine anyIn_one 5 (by kernel_rfl) ?_
          refine opIn_at rfl rfl ?_
          simp [go_sem, Oper.wpIn, Oper.about, Oper.uponIn, hm]
          refine anyIn_one 7 (by kernel_rfl) ?_
          refine opIn_at rfl rfl ?_
          simp [go_sem, Oper.wpIn, Oper.about, Oper.uponIn, hbits]
          exact g
      · refine opIn_at rfl rfl ?_
        simp [go_sem, Oper.wpIn, Oper.about, Oper.uponIn]
        refine anyIn_two 0 1 (by kernel_rfl) ?_ ?_
        · refine opIn_at rfl rfl ?_
          simp [go_sem, Oper.wpIn, Oper.about, Oper.uponIn, hbt]
          refine anyIn_two 1 2 (by kernel_rfl) ?_ ?_
          · refine opIn_at rfl rfl ?_
            simp [go_sem, Oper.wpIn, Oper.about, Oper.uponIn, hbu]
            refine anyIn_one 2 (by kernel_rfl) ?_
            refine opIn_at rfl rfl ?_
            simp [go_sem, Oper.wpIn, Oper.about, Oper.uponIn]
            refine anyIn_one 3 (by kernel_rfl) ?_
            refine opIn_at rfl rfl ?_
            simp [go_sem, Oper.wpIn, Oper.about, Oper.uponIn]
            refine anyIn_one 4 (by kernel_rfl) ?_
            refine opIn_at rfl rfl ?_
            simp [go_sem, Oper.wpIn, Oper.about, Oper.uponIn, hc16]
            refine anyIn_one 5 (by kernel_rfl) ?_
            refine opIn_at rfl rfl ?_
            simp [go_sem, Oper.wpIn, Oper.about, Oper.uponIn, hm]
            refine anyIn_one 7 (by kernel_rfl) ?_
            refine opIn_at rfl rfl ?_
            simp [go_sem, Oper.wpIn, Oper.about, Oper.uponIn, hbits]
            exact g
          · refine opIn_at rfl rfl ?_
            simp [go_sem, Oper.wpIn, Oper.about, Oper.uponIn]
            refine anyIn_two 1 3 (by kernel_rfl) ?_ ?_
            · refine opIn_at rfl rfl ?_
              simp [go_sem, Oper.wpIn, Oper.about, Oper.uponIn, hbu]
              refine anyIn_one 3 (by kernel_rfl) ?_
              refine opIn_at rfl rfl ?_
              simp [go_sem, Oper.wpIn, Oper.about, Oper.uponIn]
              refine anyIn_one 4 (by kernel_rfl) ?_
              refine opIn_at rfl rfl ?_
              simp [go_sem, Oper.wpIn, Oper.about, Oper.uponIn, hc16]
              refine anyIn_one 5 (by kernel_rfl) ?_
              refine opIn_at rfl rfl ?_
              simp [go_sem, Oper.wpIn, Oper.about, Oper.uponIn, hm]
              refine anyIn_one 7 (by kernel_rfl) ?_
              refine opIn_at rfl rfl ?_
              simp [go_sem, Oper.wpIn, Oper.about, Oper.uponIn, hbits]
              exact g
            · refine opIn_at rfl rfl ?_
              simp [go_sem, Oper.wpIn, Oper.about, Oper.uponIn]
              refine anyIn_one 1 (by kernel_rfl) ?_
              refine opIn_at rfl rfl ?_
              simp [go_sem, Oper.wpIn, Oper.about, Oper.uponIn, hbu]
              refine anyIn_one 4 (by kernel_rfl) ?_
              refine opIn_at rfl rfl ?_
              simp [go_sem, Oper.wpIn, Oper.about, Oper.uponIn, hc16]
              refine anyIn_one 5 (by kernel_rfl) ?_
              refine opIn_at rfl rfl ?_
              simp [go_sem, Oper.wpIn, Oper.about, Oper.uponIn, hm]
              refine anyIn_one 7 (by kernel_rfl) ?_
              refine opIn_at rfl rfl ?_
              simp [go_sem, Oper.wpIn, Oper.about, Oper.uponIn, hbits]
              exact g
        · refine opIn_at rfl rfl ?_
          simp [go_sem, Oper.wpIn, Oper.about, Oper.uponIn, hbu]
          refine anyIn_one 0 (by kernel_rfl) ?_
          refine opIn_at rfl rfl ?_
          simp [go_sem, Oper.wpIn, Oper.about, Oper.uponIn, hbt]
          refine anyIn_one 2 (by kernel_rfl) ?_
          refine opIn_at rfl rfl ?_
          simp [go_sem, Oper.wpIn, Oper.about, Oper.uponIn]
          refine anyIn_one 3 (by kernel_rfl) ?_
          refine opIn_at rfl rfl ?_
          simp [go_sem, Oper.wpIn, Oper.about, Oper.uponIn]
          refine anyIn_one 4 (by kernel_rfl) ?_
          refine opIn_at rfl rfl ?_
          simp [go_sem, Oper.wpIn, Oper.about, Oper.uponIn, hc16]
          refine anyIn_one 5 (by kernel_rfl) ?_
          refine opIn_at rfl rfl ?_
          simp [go_sem, Oper.wpIn, Oper.about, Oper.uponIn, hm]
          refine anyIn_one 7 (by kernel_rfl) ?_
          refine opIn_at rfl rfl ?_
          simp [go_sem, Oper.wpIn, Oper.about, Oper.uponIn, hbits]
          exact g
    case tail =>
      refine anyIn_one 8 (by kernel_rfl) ?_
      refine opIn_at rfl rfl ?_
      simp [go_sem, Oper.wpIn, Oper.about, Oper.uponIn]
      refine ⟨trivial, ?_⟩
      refine (CallsIn.inRound l (callsIn_wide.2 (least_any _ _ hand hne' (HTB.out.keep (Below.refl _ _).drew)))).mono ?_
      rintro e w7 ⟨rfl, hw7⟩
      subst hw7
      refine anyIn_one 9 (by kernel_rfl) ?_
      refine opIn_at rfl rfl ?_
      simp [go_sem, Oper.wpIn, Oper.about, Oper.uponIn, hbu, hfu]
      refine ⟨by kernel_rfl, ?_⟩
      have hbu' := hbu
      clear hbt hbu hfu hm hbits
      -- the cell is laid; the vertex is appended
      obtain ⟨y, hy⟩ : ∃ y, y = leastM (M c &&& R q) := ⟨_, rfl⟩
      rw [← hy] at HCS ⊢
      have hy16 : y < 16 := by rw [HCS.out] at HC1; exact HC1
      clear hy
      obtain ⟨a3, c3, e3⟩ := H4.out.row.slice
      rw [wayD_len] at e3
      subst e3
      obtain ⟨Wa, hWa⟩ : ∃ Wa, (W.setCell ⟨w.heap.size + 1, 0, none⟩ (.int .i64 (y : Int))).drew = Wa := ⟨_, rfl⟩
      have hsa : Wa.heap.size = W.heap.size := by rw [← hWa]; simp
      have hka : ∀ k, k ≠ w.heap.size + 1 → Wa.heap[k]? = W.heap[k]? := fun k hk => by rw [← hWa]; exact heap_setCell_other _ _ _ _ (by simpa using hk)
      have h2a : Wa.heap[w.heap.size + 1]? = some (.cells #[.int .i64 (y : Int)] 2 (0, 0)) := by rw [← hWa]; exact heap_setCell_same _ _ 0 _ _ _ H2.out
      have h3a : Wa.heap[w.heap.size + 3]? = some (.cells #[.slice a3 (i + 1) c3] 33 (0, 0)) := (hka _ (by omega)).trans H3.out
      have HOa : Hid (OwnRow 2 Wa (w.heap.size + 2) (.slice a3 (i + 1) c3) (wayD M R d u i)) := by
        show OwnRow _ _ _ _ _
        rw [← hWa]
        exact (H4.out.setBelow (by simp) _).keep (Below.refl _ _).drew
      have HBa : Hid (Below w.heap.size w Wa) := by
        show Below _ _ _
        rw [← hWa]
        exact (HB.out.setCell (p := ⟨w.heap.size + 1, 0, none⟩) (by simp) _).drew
      have hbo : Wa.cell? ⟨w.heap.size + 3, 0, none⟩ = some (.slice a3 (i + 1) c3) := by rw [cell_of_row Wa _ 0 _ _ _ h3a]; rfl
      have hbu2 : Wa.cell? ⟨w.heap.size + 1, 0, none⟩ = some (.int .i64 (y : Int)) := by rw [cell_of_row Wa _ 0 _ _ _ h2a]; rfl
      have hwl2 : w.heap.size + 3 < Wa.heap.size := by omega
      have HWL := Lib.hid (wayD_len M R d u i)
      have HKA := Lib.hid hka
      have H2A := Lib.hid h2a
      have H3A := Lib.hid h3a
      have hsa1 : W.heap.size ≤ Wa.heap.size := by omega
      have hsa2 : Wa.heap.size ≤ W.heap.size := by omega
      have HS5 := Lib.hid hs5
      rw [hWa]
      clear hWa hka h2a h3a hbu' hsa hs5
      gi_wp2_with (gi_at_builtin; refine wpListIn_append_own _ rfl (.tmp 25) (.tmp 27) 33 rfl (w.heap.size + 2) 2 i0 (.int .i64 0) 1 8 Tryz.underlying33 hi hz0 hz1 hz2 rfl (by decide) _ _ _ rfl (HOa.out.owns.alloc _) ⟨Wa.heap.size, 0, none⟩ 1 1 [.int .i64 (y : Int)] rfl rfl (lit_one _ _ _) (one_one _) (by rw [HWL.out]; unfold maxLen; omega) (by rw [HWL.out]; omega) (by simp; omega) ?_)
      intro v4 w4 hown4 hgrow4 _
      have hown : ∀ k cs U fr, Wa.heap[k]? = some (Obj.cells cs U fr) → U ≠ 2 → some k ≠ (Value.slice a3 (i + 1) c3).ownBlock := fun k cs U fr hk hU e => by
        rcases HOa.out.2.2 with ⟨e3, _⟩ | ⟨g', cap', cur', e3, _, hh', _⟩
        · rw [e3] at e; simp [Value.ownBlock] at e
        · rw [e3] at e
          simp [Value.ownBlock] at e
          subst e
          rw [hk] at hh'
          simp at hh'
          exact hU hh'.2.1
      have hlow : ∀ k, (Value.slice a3 (i + 1) c3).ownBlock = some k → w.heap.size + 2 ≤ k ∧ ∃ cs, Wa.heap[k]? = some (.cells cs 2 (0, 0)) := fun k e => by
        rcases HOa.out.2.2 with ⟨e3, _⟩ | ⟨g', cap', cur', e3, hgB, hh', _⟩
        · rw [e3] at e; simp [Value.ownBlock] at e
        · rw [e3] at e
          simp [Value.ownBlock] at e
          subst e
          exact ⟨hgB, _, hh'⟩
      have hk4 : ∀ k, k < W.heap.size → k ≠ w.heap.size + 1 → some k ≠ (Value.slice a3 (i + 1) c3).ownBlock → w4.heap[k]? = W.heap[k]? := fun k hk h1 h2 => by
        rw [hgrow4.block k (by simp; omega) h2, Below.heap_alloc _ _ _ (by omega)]
        exact HKA.out k h1
      have h34 : w4.heap[w.heap.size + 3]? = some (.cells #[.slice a3 (i + 1) c3] 33 (0, 0)) := (hk4 _ hwl (by omega) (hown _ _ _ _ H3A.out (by decide))).trans H3.out
      have h24 : w4.heap[w.heap.size + 1]? = some (.cells #[.int .i64 (y : Int)] 2 (0, 0)) := by
        rw [hgrow4.block _ (by simp; omega) (fun e => by have := (hlow _ e.symm).1; omega), Below.heap_alloc _ _ _ (by omega)]
        exact H2A.out
      have hbo4 : w4.cell? ⟨w.heap.size + 3, 0, none⟩ = some (.slice a3 (i + 1) c3) := by rw [cell_of_row w4 _ 0 _ _ _ h34]; rfl
      have hfo4 : w4.frozen? ⟨w.heap.size + 3, 0, none⟩ = false := frozen_of_row w4 _ 0 _ _ h34
      have hO4 : OwnRow 2 w4 (w.heap.size + 2) v4 (wayD M R d u (i + 1)) := OwnRow.of_ownsRow (n := (wayD M R d u i).length + 1) (by rw [HWS.out, HCS.out]; simpa using hown4) (by rw [wayD_len]; unfold maxLen; omega) (fun x hx => by
        rw [HWS.out] at hx
        rcases List.mem_append.1 hx with hx | hx
        · exact HOa.out.1 x hx
        · simp at hx; subst hx; unfold I64; omega)
      have hs4 : W.heap.size ≤ w4.heap.size := by have := hgrow4.size; simp at this; omega
      have hB4 : Below w.heap.size w w4 := (HBa.out.alloc (by omega) _).grown hgrow4 (by simp; omega) (fun j hj => by have := (hlow j hj).1; omega)
      have hfin : ∀ k, k < W.heap.size → k ≠ w.heap.size + 1 → k ≠ w.heap.size + 3 → some k ≠ (Value.slice a3 (i + 1) c3).ownBlock → (w4.setCell ⟨w.heap.size + 3, 0, none⟩ v4).heap[k]? = W.heap[k]? := fun k hk h1 h2 h3 => by
        rw [heap_setCell_other _ _ _ _ (by simpa using h2)]
        exact hk4 k hk h1 h3
      have hs5 := HS5.out
      have hlo : w.heap.size + 6 < W.heap.size := by rw [hs5] at hsz; omega
      have HF1 : Hid (Two2 w5.heap.size W (w4.setCell ⟨w.heap.size + 3, 0, none⟩ v4)) := by
        refine ⟨?_, ?_⟩
        · rw [hs5]
          refine hfin _ (by omega) (by omega) (by omega) (fun e => ?_)
          obtain ⟨_, cs, hcs⟩ := hlow _ e.symm
          rw [HKA.out _ (by omega)] at hcs
          have := HOD.out
          rw [hs5, hcs] at this
          cases this
        · rw [hs5]
          refine hfin _ (by omega) (by omega) (by omega) (fun e => ?_)
          obtain ⟨_, cs, hcs⟩ := hlow _ e.symm
          rw [HKA.out _ (by omega)] at hcs
          have := HOL.out
          rw [hs5, hcs] at this
          cases this
      have HF2 : Hid (KeepsBut (fun k => k ≠ w.heap.size + 4 ∧ k ≠ gb) W (w4.setCell ⟨w.heap.size + 3, 0, none⟩ v4)) := by
        refine ⟨by simpa using hs4, fun k hk hn => ?_⟩
        have hk2 : k = w.heap.size + 4 ∨ k = gb := by
          rcases Nat.decEq k (w.heap.size + 4) with h1 | h1
          · rcases Nat.decEq k gb with h2 | h2
            · exact absurd ⟨h1, h2⟩ hn
            · exact .inr h2
          · exact .inl h1
        rcases hk2 with rfl | rfl
        · exact hfin _ hk (by omega) (by omega) (hown _ _ _ _ ((HKA.out _ (by omega)).trans HSV.out) (by decide))
        · exact hfin _ hk (by omega) (by omega) (fun e => by have := (hlow _ e.symm).1; omega)
      have HF3 : Hid (DI w bn M R d u (i + 1) (w4.setCell ⟨w.heap.size + 3, 0, none⟩ v4)) := by
        refine ⟨⟨sv, ?_⟩, ?_, ?_, ⟨v4, heap_setCell_same _ _ 0 _ _ _ h34, ?_⟩, hB4.setCell (p := ⟨w.heap.size + 3, 0, none⟩) (by simp) _⟩
        · exact (hfin _ (by omega) (by omega) (by omega) (hown _ _ _ _ ((HKA.out _ (by omega)).trans HSV.out) (by decide))).trans HSV.out
        · exact (hfin _ (by omega) (by omega) (by omega) (fun e => by have := (hlow _ e.symm).1; omega)).trans H1.out
        · rw [heap_setCell_other _ _ _ _ (by simp), HCS.out]; exact h24
        · refine hO4.kept (fun k cs fr hk => ?_)
          rw [heap_setCell_other _ _ _ _ (fun e => ?_)]
          · exact hk
          · simp at e
            subst e
            rw [h34] at hk
            simp at hk
      obtain ⟨a5, c5, e5⟩ := hO4.row.slice
      rw [wayD_len] at e5
      subst e5
      clear hown4 hgrow4 hown hlow hk4 h34 h24 hO4 hB4 hfin hbo hbu2 hs5
      gi_wp2
      refine ⟨HF1.out, HF2.out, ?_⟩
      show DI w bn M R d u (pre ++ [q]).length _
      rw [HPL.out]
      exact HF3.out
  case done =>
    rintro D ys W rfl ⟨-, -, -, ⟨val, h3, h4⟩, hb⟩ hD hK
    rw [downTo_len] at h4
    obtain ⟨a3, c3, e3⟩ := h4.row.slice
    rw [wayD_len] at e3
    subst e3
    have hbo : W.cell? ⟨w.heap.size + 3, 0, none⟩ = some (.slice a3 (d + 1) c3) := by rw [cell_of_row W _ 0 _ _ _ h3]; rfl
    have HK := Lib.hid hK
    have hDW : D < W.heap.size := (Array.getElem?_eq_some_iff.1 hK).1
    have HP : Hid (GaveRow w (wayD M R d u d) (.returned (.slice a3 (d + 1) c3)) (W.putObj D (.deferred none))) := by
      refine ⟨_, _, _, rfl, (h4.mono (by omega)).kept (fun k cs fr hk => ?_), hb.trans (below_put W D _ (by omega) hDW)⟩
      rw [World.putObj_heap_other (fun e => ?_)]
      · exact hk
      · subst e; rw [hK] at hk; cases hk
    clear h3 h4 hb hK
    go_wp2
    refine ⟨by simp, .inl ⟨_, _, rfl, run_takeDeferred HK.out, ?_⟩⟩
    exact ⟨_, results_tmp rfl _ _ _, by simpa using HP.out⟩
  case stop =>
    rintro D c pre W h _ _
    exact h.elim

end Go.Proofs.YtohjfcfcopbmoaaGreatDoor
