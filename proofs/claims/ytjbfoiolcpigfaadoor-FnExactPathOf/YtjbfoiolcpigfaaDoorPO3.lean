/- A region in a round, as outside of it; slices.Backward over masks. -/
import Derived.Test.YtjbfoiolcpigfaaDoorX3
import Derived.Test.YtjbfoiolcpigfaaDoorZ3
import Derived.RangeFuncFrom
import Derived.RangeFuncCalls

namespace Go.Proofs.YtjbfoiolcpigfaaDoor
open Go.RowKit Go.Shelf
attribute [local go_sem] Oper.semAt_some

section
variable {F : Fence} {n : Nat} {P : Program} {ops : Array Oper} {Q : Exit → Act → World → Prop}
/-- No operation defers. -/
def NoDefer (ops : Array Oper) : Bool := ops.all fun o => match o.op with | .defer _ => false | _ => true
theorem noDefer_at (h : NoDefer ops = true) {i : Nat} {o : Oper} (ho : ops[i]? = some o) : ∀ c, o.op ≠ .defer c := by
  intro c e
  unfold NoDefer at h
  rw [Array.all_eq_true] at h
  obtain ⟨hi, e2⟩ := Array.getElem?_eq_some_iff.1 ho
  have := h i hi
  rw [e2, e] at this
  cases this
theorem opIn_round (l : Nat) (hd : NoDefer ops = true) {i : Nat} {K : Act → World → Prop} {a : Act} {w : World} (h : wpOpIn F n P ops Q i K a w) : wpOpIn (F.inRound l) n P ops Q i K a w := by
  unfold wpOpIn at *
  cases ho : ops[i]? with
  | none => rw [ho] at h; exact h
  | some o =>
    simp only [ho] at h ⊢
    by_cases hw : Region.wanted o (yielded ops a.tmps) = true
    · rw [if_pos hw] at h ⊢
      unfold Oper.wpIn at *
      refine ⟨h.1, ?_⟩
      have h2 := h.2
      rw [Oper.semAt_plain _ _ _ (noDefer_at hd ho)] at h2 ⊢
      generalize (execOp a.eval o).run P w = r at h2 ⊢
      exact h2
    · rw [if_neg hw] at h ⊢
      exact h
theorem anyIn_round (l : Nat) (hd : NoDefer ops = true) : ∀ (fuel : Nat) (listed : Array Bool) (a : Act) (w : World), wpAnyIn F n P .any ops Q fuel listed a w → wpAnyIn (F.inRound l) n P .any ops Q fuel listed a w := by
  intro fuel
  induction fuel with
  | zero => intro listed a w h; exact h
  | succ fuel ih => intro listed a w h; exact ⟨h.1, fun i hi => opIn_round l hd (wpOpIn_mono (fun a w => ih _ a w) (h.2 i hi))⟩
/-- A region that draws its order, in a round: as outside of it. -/
theorem region_round {id : Nat} (l : Nat) {a : Act} {w : World} (hm : P.follows .mixedOrders = true) (hd : NoDefer ops = true) (h : wpAnyIn F n P .any ops Q ops.size (Array.replicate ops.size false) a w.drew) : (Code.region id ops true).wpIn (F.inRound l) n P Q a w :=
  wpIn_region_any hm (anyIn_round l hd _ _ _ _ h)
theorem lead {G A : Prop} (h : G → A) (g : G) : A := h g
end

/-- What an iterator promises that keeps nothing of its own, where the body may know what has come before. -/
def SeqPre {α : Type} (F : Fence) (n : Nat) (P : Program) (g : Nat) (lb : Array Value) (encs : α → Array Value) (Kp : World → World → Prop) (Pp : List α → α → Prop) (S : List α → Prop) (w : World) : Prop :=
  ∀ (l : Nat) (J Jx : List α → World → Prop) (W : World), Below w.heap.size w W →
    (∀ s A B, J s A → Below A.heap.size A B → J s B) →
    (∀ pre x W1, J pre W1 → Pp pre x → YieldAt F (n - 1) P l (encs x) W1 fun e W' =>
      (e = .returned (.bool true) ∧ J (pre ++ [x]) W' ∧ Kp W1 W') ∨ (e = .returned (.bool false) ∧ Jx (pre ++ [x]) W')) →
    J [] W →
    CallsIn F n P g (#[.func (.yield l) #[] #[]] ++ lb) W fun e W' => (∃ v, e = .returned v) ∧ ((∃ xs, S xs ∧ J xs W') ∨ (∃ pre, Jx pre W'))

/-- The loop's own two blocks lie as they lay. -/
def Two2 (B : Nat) (W W' : World) : Prop := W'.heap[B]? = W.heap[B]? ∧ W'.heap[B + 1]? = W.heap[B + 1]?
/-- How the body of a round may be left. -/
def prePost {α : Type} (B : Nat) (Kp : World → World → Prop) (I : List α → World → Prop) (Ix : Code → List α → World → Prop) (xs : List α) (W : World) : Exit → Act → World → Prop
  | .normal, _, W' => Two2 B W W' ∧ Kp W W' ∧ I xs W'
  | .ret, _, W' => Two2 B W W' ∧ Ix .ret xs W'
  | .exit id, _, W' => Two2 B W W' ∧ Ix (.exit id) xs W'
  | .goto t, _, W' => Two2 B W W' ∧ Ix (.goto t) xs W'
  | .panic _, _, _ => False
  | .outgrown, _, _ => False

theorem wpIn_rangeFunc_pre {F : Fence} {n : Nat} {P : Program} {α : Type} {g : Operand} {ps : Array Tmp} {assign body : Code} {Q : Exit → Act → World → Prop} {a : Act} {w : World}
    (hro : F.round = none) (h1 : 1 ≤ n) {gf : Nat} {lb : Array Value} (hg : a.eval g = .func (.func gf) #[] lb) (hFg : F.fn gf) (eg : ∀ args w, (callFunc gf args).run P w = .ok (.enter gf args) w)
    {encs : α → Array Value} {Kp : World → World → Prop} {Pp : List α → α → Prop} {S : List α → Prop} (hseq : SeqPre F (n - 1) P gf lb encs Kp Pp S w)
    (hKt : ∀ {A B C : World}, Kp A B → Kp B C → Kp A C) (hKp : ∀ (W : World) (o : Obj), Kp W (W.putObj (w.heap.size + 1) o)) (hps : ∀ x, (encs x).size = ps.size)
    (I : List α → World → Prop) (Ix : Code → List α → World → Prop) (hI : ∀ s A B, I s A → Below A.heap.size A B → I s B)
    (hIp : ∀ s A r o, I s A → A.heap[w.heap.size + 1]? = some (.loop r) → I s (A.putObj (w.heap.size + 1) o)) (hIxp : ∀ c s A r o, Ix c s A → A.heap[w.heap.size + 1]? = some (.loop r) → Ix c s (A.putObj (w.heap.size + 1) o)) (h0 : I [] w) (a₁ : α → Act)
    (hassign : ∀ (l : Nat) (x : α) (W : World) (K : Act → World → Prop), K (a₁ x) W →
      assign.wpIn (F.inRound l) (n - 1 - 1) P (Exit.then K (fun _ _ _ => False)) { tmps := (ps.zip (encs x)).foldl (fun t (p, v) => t.setIfInBounds p v) a.tmps, defers := [] } W)
    (hbody : ∀ (l : Nat) (pre : List α) (x : α) (W : World), I pre W → w.heap.size + 1 < W.heap.size → (∃ o, W.heap[w.heap.size]? = some (.deferred o)) → (∃ r, W.heap[w.heap.size + 1]? = some (.loop r)) → Pp pre x → body.wpIn (F.inRound l) (n - 1 - 1) P (prePost w.heap.size Kp I Ix (pre ++ [x]) W) (a₁ x) W)
    (hdone : ∀ (D : Nat) (xs : List α) (W : World), S xs → I xs W → w.heap.size ≤ D → W.heap[D]? = some (.deferred (some [])) → Q .normal { a with defers := { target := .collected D, args := #[] } :: a.defers } W)
    (hstop : ∀ (D : Nat) (c : Code) (pre : List α) (W : World), Ix c pre W → w.heap.size ≤ D → W.heap[D]? = some (.deferred (some [])) → c.wpIn F n P Q { a with defers := { target := .collected D, args := #[] } :: a.defers } W) :
    (Code.rangeFunc g ps assign body).wpIn F n P Q a w := by
  refine wpIn_rangeFunc ?_
  intro fn hfn
  rw [hro]
  obtain ⟨rec, hrec⟩ : ∃ rec : LoopState → Option Code → Loop, rec = fun st pe => { state := st, pending := pe, fn, tmps := a.tmps, params := ps, assign, body, defers := w.heap.size } := ⟨_, rfl⟩
  obtain ⟨W1, hW1⟩ : ∃ W1, (w.alloc (.deferred (some []))).alloc (.loop (rec .ready none)) = W1 := ⟨_, rfl⟩
  have hL1 : W1.heap[w.heap.size + 1]? = some (.loop (rec .ready none)) := by
    rw [← hW1]; have := World.alloc_heap_new (w.alloc (.deferred (some []))) (.loop (rec .ready none)); rwa [World.size_alloc] at this
  have hK1 : W1.heap[w.heap.size]? = some (.deferred (some [])) := by
    rw [← hW1]; exact (Below.heap_alloc _ _ _ (by simp)).trans (World.alloc_heap_new w _)
  have hb1 : Below w.heap.size w W1 := by
    rw [← hW1]; exact ((Below.refl _ w).alloc (Nat.le_refl _) _).alloc (by simp) _
  have hI1 : I [] W1 := hI _ _ _ h0 hb1
  refine ⟨w.heap.size + 1, [{ target := .collected w.heap.size, args := #[] }], W1, { target := .fn (.func gf) lb, args := #[.func (.yield (w.heap.size + 1)) #[] #[]] }, W1, gf,
    #[.func (.yield (w.heap.size + 1)) #[] #[]] ++ lb, W1, ?_, ?_, ?_, ?_, fun _ => h1, ?_⟩
  · rw [← hW1, hrec]; exact run_enterLoop_outer _ _ _ _ _
  · simp only [resolve, hg]
    simp [go_sem]
  · intro f' hf'; simp [Target.leads] at hf'; subst hf'; exact hFg
  · simp [invoke, go_sem, eg]
  · refine (hseq (w.heap.size + 1)
      (fun pre W => I pre W ∧ W.heap[w.heap.size + 1]? = some (.loop (rec .ready none)) ∧ W.heap[w.heap.size]? = some (.deferred (some [])))
      (fun pre W => ∃ c, Ix c pre W ∧ W.heap[w.heap.size + 1]? = some (.loop (rec .done (some c))) ∧ W.heap[w.heap.size]? = some (.deferred (some [])))
      W1 hb1
      (fun s A B hs hb => ⟨hI s A B hs.1 hb, (hb.block _ (Array.getElem?_eq_some_iff.1 hs.2.1).1).trans hs.2.1, (hb.block _ (Array.getElem?_eq_some_iff.1 hs.2.2).1).trans hs.2.2⟩)
      ?_ ⟨hI1, hL1, hK1⟩).mono ?_
    · -- one round
      rintro pre x W ⟨hi, hl, hk⟩ hpx
      have hlt : w.heap.size + 1 < W.heap.size := (Array.getElem?_eq_some_iff.1 hl).1
      have hy := run_yield (P := P) (args := encs x) hl (by rw [hrec]; exact hps x)
      rw [hrec] at hy
      refine ⟨fn, _, assign, body, hy, roundIn_of_wpIn hfn (hassign _ x W _ ⟨_, run_beginRound hl (by rw [hrec]), ?_⟩)⟩
      have hl2 : (W.putObj (w.heap.size + 1) (.loop { rec .ready none with state := .busy })).heap[w.heap.size + 1]? = some (.loop { rec .ready none with state := .busy }) := World.putObj_heap_same hlt
      have hk2 : (W.putObj (w.heap.size + 1) (.loop { rec .ready none with state := .busy })).heap[w.heap.size]? = some (.deferred (some [])) := (World.putObj_heap_other (by omega)).trans hk
      have hsz2 : (W.putObj (w.heap.size + 1) (.loop { rec .ready none with state := .busy })).heap.size = W.heap.size := by simp
      refine wpIn_mono (hbody _ pre x _ (hIp _ _ _ _ hi hl) (by rw [hsz2]; exact hlt) ⟨_, hk2⟩ ⟨_, hl2⟩ hpx) ?_
      have fin : ∀ (jump : Option Code) (W3 : World), Two2 w.heap.size (W.putObj (w.heap.size + 1) (.loop { rec .ready none with state := .busy })) W3 →
          (Instr.endRound (w.heap.size + 1) jump).run P W3 = .ok (.bool jump.isNone) (W3.putObj (w.heap.size + 1) (.loop (rec (if jump.isNone then .ready else .done) jump))) ∧
          W3.heap[w.heap.size + 1]? = some (.loop { rec .ready none with state := .busy }) ∧
          (W3.putObj (w.heap.size + 1) (.loop (rec (if jump.isNone then .ready else .done) jump))).heap[w.heap.size + 1]? = some (.loop (rec (if jump.isNone then .ready else .done) jump)) ∧
          (W3.putObj (w.heap.size + 1) (.loop (rec (if jump.isNone then .ready else .done) jump))).heap[w.heap.size]? = some (.deferred (some [])) := fun jump W3 hk3 => by
        have hl3 := hk3.2.trans hl2
        have := run_endRound (P := P) jump hl3
        rw [hrec] at this ⊢
        exact ⟨this, by rw [hrec] at hl3; exact hl3, World.putObj_heap_same (Array.getElem?_eq_some_iff.1 hl3).1, (World.putObj_heap_other (by omega)).trans (hk3.1.trans hk2)⟩
      rintro e a3 W3 hp
      cases e with
      | normal =>
        obtain ⟨h2, hk3, hi3⟩ := hp
        obtain ⟨hr, hl3, hl4, hk4⟩ := fin none W3 h2
        exact ⟨_, _, hr, .inl ⟨rfl, ⟨hIp _ _ _ _ hi3 hl3, hl4, hk4⟩, hKt (hKt (hKp W _) hk3) (hKp W3 _)⟩⟩
      | ret =>
        obtain ⟨h2, hi3⟩ := hp
        obtain ⟨hr, hl3, hl4, hk4⟩ := fin (some .ret) W3 h2
        exact ⟨_, _, hr, .inr ⟨rfl, ⟨.ret, hIxp _ _ _ _ _ hi3 hl3, hl4, hk4⟩⟩⟩
      | exit id =>
        obtain ⟨h2, hi3⟩ := hp
        obtain ⟨hr, hl3, hl4, hk4⟩ := fin (some (.exit id)) W3 h2
        exact ⟨_, _, hr, .inr ⟨rfl, ⟨.exit id, hIxp _ _ _ _ _ hi3 hl3, hl4, hk4⟩⟩⟩
      | goto t =>
        obtain ⟨h2, hi3⟩ := hp
        obtain ⟨hr, hl3, hl4, hk4⟩ := fin (some (.goto t)) W3 h2
        exact ⟨_, _, hr, .inr ⟨rfl, ⟨.goto t, hIxp _ _ _ _ _ hi3 hl3, hl4, hk4⟩⟩⟩
      | panic ch => exact hp.elim
      | outgrown => exact hp.elim
    · -- behind the iterator
      rintro e W2 ⟨⟨v, rfl⟩, (⟨xs, hS, hi, hl, hk⟩ | ⟨pre, c, hi, hl, hk⟩)⟩
      · exact ⟨none, _, by have := run_endLoop (P := P) hl (by rw [hrec]; simp); rw [hrec] at this; exact this, hdone _ xs _ hS (hIp _ _ _ _ hi hl) (Nat.le_refl _) ((World.putObj_heap_other (by omega)).trans hk)⟩
      · exact ⟨some c, _, by have := run_endLoop (P := P) hl (by rw [hrec]; simp); rw [hrec] at this; exact this, hstop _ c pre _ (hIxp _ _ _ _ _ hi hl) (Nat.le_refl _) ((World.putObj_heap_other (by omega)).trans hk)⟩

/-- Masks in a slice: its first d cells are R 0, R 1, .. -/
structure RingsAt (w : World) (gb cap d : Nat) (R : Nat → Nat) : Prop where
  le : d ≤ cap
  max : cap ≤ maxLen
  cells : ∀ i, i < d → w.cell? ⟨gb, i, none⟩ = some (.int .u32 (R i : Int))
theorem RingsAt.keep {w w' : World} {gb cap d : Nat} {R : Nat → Nat} (h : RingsAt w gb cap d R) (hb : Below w.heap.size w w') : RingsAt w' gb cap d R := ⟨h.le, h.max, fun i hi => cell_keep hb (h.cells i hi)⟩

theorem backward_any (gb cap d : Nat) (w : World) :
    Calls Tryd.prog 143 #[.slice (some ⟨gb, 0, none⟩) d cap] w fun e w' =>
      e = .returned (.func (.func 149) #[] #[.pointer (some ⟨w.heap.size, 0, none⟩)]) ∧
      w' = w.alloc (.cells #[.slice (some ⟨gb, 0, none⟩) d cap] 120) := by
  have hmf : ∀ (fn : Fn) (first cap : Array Value) (w : World), (Instr.makeFunc fn first cap).run Tryd.prog w = .ok (.func fn first cap) w := fun _ _ _ _ => rfl
  go_enter Tryd.func143, Tryd.ntmps143
  go_wp2
  go_ret
  exact ⟨rfl, rfl⟩

/-- A place and its mask, as yield takes them. -/
def encB (R : Nat → Nat) (i : Nat) : Array Value := #[.int .i64 (i : Int), .int .u32 (R i : Int)]
/-- From the last place to the first, so many of them. -/
def downTo (d : Nat) : Nat → List Nat
  | 0 => []
  | k + 1 => downTo d k ++ [d - 1 - k]
theorem downTo_len (d k : Nat) : (downTo d k).length = k := by
  induction k with
  | zero => rfl
  | succ k ih => simp [downTo, ih]

/-- What the iterator reads. -/
structure BackIn (w : World) (pb gb cap d : Nat) (R : Nat → Nat) : Prop where
  box : w.cell? ⟨pb, 0, none⟩ = some (.slice (some ⟨gb, 0, none⟩) d cap)
  rings : RingsAt w gb cap d R
theorem BackIn.keep {w w' : World} {pb gb cap d : Nat} {R : Nat → Nat} (h : BackIn w pb gb cap d R) (hb : Below w.heap.size w w') : BackIn w' pb gb cap d R := ⟨cell_keep hb h.box, h.rings.keep hb⟩
theorem BackIn.but {w w' : World} {pb gb cap d : Nat} {R : Nat → Nat} (h : BackIn w pb gb cap d R) (hb : KeepsBut (fun k => k ≠ pb ∧ k ≠ gb) w w') : BackIn w' pb gb cap d R :=
  ⟨hb.cell (fun h => h.1 rfl) h.box, h.rings.le, h.rings.max, fun i hi => hb.cell (fun h => h.2 rfl) (h.rings.cells i hi)⟩

set_option maxHeartbeats 4000000 in
set_option maxRecDepth 100000 in
theorem backward1_seq (m pb gb cap d : Nat) (R : Nat → Nat) (w : World) (hd : d ≤ 1000) (hin : BackIn w pb gb cap d R) :
    SeqPre Fence.wide m Tryd.prog 149 #[.pointer (some ⟨pb, 0, none⟩)] (encB R) (KeepsBut (fun k => k ≠ pb ∧ k ≠ gb)) (fun pre x => pre.length < d ∧ x = d - 1 - pre.length) (fun xs => xs = downTo d d) w := by
  intro l J Jx W hW hJ hY h0
  have hin1 := hin.keep hW
  have kt := hin1.box
  have HIN := Lib.hid hin1
  have HY := Lib.hid hY
  have H0 := Lib.hid h0
  have hwd : IntKind.i64.wrap ((d : Int) - 1) = (d : Int) - 1 := IntWalk.i64_in _ (by omega)
  clear hin hW hJ hY h0 hin1
  refine callsIn_of_wp Tryd.func149 rfl trivial ?_ rfl
  simp only [Tryd.ntmps149, List.size_toArray, List.length_cons, List.length_nil, Nat.reduceAdd, Nat.reduceSub, Array.replicate_succ, Array.replicate_zero, List.push_toArray, List.append_toArray, List.nil_append, List.cons_append]
  gi_wp2
  clear kt
  gi_loopw [3] (fun iv wr => ∃ k : Nat, k ≤ d ∧ iv = .int .i64 ((d : Int) - 1 - (k : Int)) ∧ BackIn wr pb gb cap d R ∧ J (downTo d k) wr) (fun iv _ => (intOf iv + 1).toNat)
  case atStart => exact ⟨0, Nat.zero_le _, by simp, HIN.out, H0.out⟩
  case round =>
    obtain ⟨k, hk, rfl, hp, hj⟩ := hrel
    have kt := hp.box
    have HP := Lib.hid hp
    have HJR := Lib.hid hj
    have hlen := downTo_len d k
    clear hp hj HIN H0
    by_cases hkd : k < d
    · obtain ⟨q, hq⟩ : ∃ q : Nat, d - 1 - k = q := ⟨_, rfl⟩
      have hqI : (d : Int) - 1 - (k : Int) = (q : Int) := by omega
      have hqd : q < d := by omega
      have hck := HP.out.rings.cells q hqd
      have hl1 := HP.out.rings.le
      have hl2 := HP.out.rings.max
      have HDS : Hid (downTo d (k + 1) = downTo d k ++ [q]) := by show _ = _; rw [downTo, hq]
      obtain ⟨fn, tmps, assign, body, hy, hR⟩ := HY.out _ q wr HJR.out ⟨by omega, by rw [hlen]; exact hq.symm⟩
      simp only [encB] at hy
      have HR7 := Lib.hid hR
      have hwq : IntKind.i64.wrap ((q : Int) - 1) = (q : Int) - 1 := IntWalk.i64_in _ (by omega)
      rw [hqI]
      have HQ := Lib.hid hqI
      clear hR hqI hq
      gi_wp2
      refine ⟨fun h => (by cases h), HR7.out.mono ?_⟩
      rintro e W3 (⟨rfl, hJ3, hk3⟩ | ⟨rfl, hJx3⟩)
      · have HJ3 := Lib.hid hJ3
        have HP3 := Lib.hid (HP.out.but hk3)
        clear hJ3 hk3 hy hck kt
        gi_wp2
        go_roundw
        case rel => exact ⟨k + 1, by omega, by have := HQ.out; simp; omega, HP3.out, by rw [HDS.out]; exact HJ3.out⟩
        case measure => (first | (simp [intOf]; done) | (simp [intOf]; omega))
      · have HX3 := Lib.hid hJx3
        clear hJx3 hy hck kt
        gi_wp2
        refine bodyPost_ret (results_none rfl _ _ _) rfl ?_
        exact ⟨⟨_, rfl⟩, .inr ⟨_, HX3.out⟩⟩
    · obtain rfl : k = d := by omega
      have hneg : (k : Int) - 1 - (k : Int) = -1 := by omega
      rw [hneg]
      clear hneg
      gi_wp2
      go_end0
      exact ⟨⟨_, rfl⟩, .inl ⟨_, rfl, HJR.out⟩⟩

end Go.Proofs.YtjbfoiolcpigfaaDoor
