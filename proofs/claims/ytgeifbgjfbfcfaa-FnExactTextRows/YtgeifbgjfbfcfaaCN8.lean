/- A law of loops over an iterator that hands out one and the same memory: the body may keep memory that it has made in the rounds before. No statement of the program. -/
import Derived.Test.YtgeifbgjfbfcfaaQEN3

namespace Go.Proofs.Ytgeifbgjfbfcfaa
open Go.RowKit Go.Shelf
attribute [local go_sem] Oper.semAt_some

/-- What an iterator promises that hands out lists in one memory of its own, one after another. -/
def SeqRowN (F : Fence) (n : Nat) (P : Program) (g : Nat) (lb : Array Value) (T : Nat → Prop) (sz : Nat) (Z : List (List Int)) (w : World) : Prop :=
  ∀ (l : Nat) (J Jx : List (List Int) → World → Prop) (W : World), Below w.heap.size w W → w.heap.size ≤ l → l < W.heap.size →
    (∀ s A B, J s A → KeepsBut (fun k => k = W.heap.size + 2) A B → Below W.heap.size A B → J s B) →
    (∀ pre x b W1, J pre W1 → W.heap.size ≤ W1.heap.size → b = W.heap.size + 2 → (pre ++ [x]) <+: Z → RowAt W1 (.slice (some ⟨b, 0, none⟩) sz sz) x → YieldAt F (n - 1) P l #[.slice (some ⟨b, 0, none⟩) sz sz] W1 fun e W' =>
      (e = .returned (.bool true) ∧ J (pre ++ [x]) W' ∧ KeepsBut (fun k => T k ∨ k = l) W1 W') ∨ (e = .returned (.bool false) ∧ Jx (pre ++ [x]) W' ∧ KeepsBut (fun k => k < w.heap.size ∨ k = l) W1 W')) →
    J [] W →
    CallsIn F n P g (#[.func (.yield l) #[] #[]] ++ lb) W fun e W' => (∃ v, e = .returned v) ∧ (J Z W' ∨ (∃ pre, pre <+: Z ∧ pre ≠ [] ∧ Jx pre W'))

variable {F : Fence} {n : Nat} {P : Program}

theorem wpIn_rangeFunc_rowN {g : Operand} {ps : Array Tmp} {assign body : Code} {Q : Exit → Act → World → Prop} {a : Act} {w : World}
    (hro : F.round = none) (h1 : 1 ≤ n) {gf : Nat} {lb : Array Value} (hg : a.eval g = .func (.func gf) #[] lb) (hFg : F.fn gf) (eg : ∀ args w, (callFunc gf args).run P w = .ok (.enter gf args) w)
    {T : Nat → Prop} {sz : Nat} {Z : List (List Int)} (hseq : SeqRowN F (n - 1) P gf lb T sz Z w)
    (hT : ∀ k, T k → k < w.heap.size) (hps : ps.size = 1)
    (I : List (List Int) → World → Prop) (Ix : Code → List (List Int) → World → Prop) (hI : ∀ s A B, I s A → KeepsBut (fun k => k = w.heap.size + 1 ∨ k = w.heap.size + 4) A B → Below w.heap.size A B → I s B) (hIx : ∀ c s A r o, Ix c s A → A.heap[w.heap.size + 1]? = some (.loop r) → Ix c s (A.putObj (w.heap.size + 1) o)) (h0 : I [] w) (a₁ : Nat → Act)
    (hassign : ∀ (l b : Nat) (W : World) (K : Act → World → Prop), K (a₁ b) W →
      assign.wpIn (F.inRound l) (n - 1 - 1) P (Exit.then K (fun _ _ _ => False)) { tmps := (ps.zip #[.slice (some ⟨b, 0, none⟩) sz sz]).foldl (fun t (p, v) => t.setIfInBounds p v) a.tmps, defers := [] } W)
    (hbody : ∀ (l : Nat) (pre : List (List Int)) (x : List Int) (b : Nat) (W : World), I pre W → w.heap.size ≤ W.heap.size → b = w.heap.size + 4 → (pre ++ [x]) <+: Z → RowAt W (.slice (some ⟨b, 0, none⟩) sz sz) x → body.wpIn (F.inRound l) (n - 1 - 1) P (visPost w.heap.size T I Ix (pre ++ [x]) W) (a₁ b) W)
    (hdone : ∀ (D : Nat) (W : World), I Z W → w.heap.size ≤ D → W.heap[D]? = some (.deferred (some [])) → Q .normal { a with defers := { target := .collected D, args := #[] } :: a.defers } W)
    (hstop : ∀ (D : Nat) (c : Code) (pre : List (List Int)) (W : World), pre <+: Z → pre ≠ [] → Ix c pre W → w.heap.size ≤ D → W.heap[D]? = some (.deferred (some [])) → c.wpIn F n P Q { a with defers := { target := .collected D, args := #[] } :: a.defers } W) :
    (Code.rangeFunc g ps assign body).wpIn F n P Q a w := by
  refine wpIn_rangeFunc ?_
  intro fn hfn
  rw [hro]
  obtain ⟨rec, hrec⟩ : ∃ rec : LoopState → Option Code → Loop, rec = fun st pe => { state := st, pending := pe, fn, tmps := a.tmps, params := ps, assign, body, defers := w.heap.size } := ⟨_, rfl⟩
  obtain ⟨W1, hW1⟩ : ∃ W1, (w.alloc (.deferred (some []))).alloc (.loop (rec .ready none)) = W1 := ⟨_, rfl⟩
  have hL1 : W1.heap[w.heap.size + 1]? = some (.loop (rec .ready none)) := by
    rw [← hW1]; have := World.alloc_heap_new (w.alloc (.deferred (some []))) (.loop (rec .ready none)); rwa [World.size_alloc] at this
  have hK1 : W1.heap[w.heap.size]? = some (.deferred (some [])) := by
    rw [← hW1]; exact (Below.heap_alloc _ _ _ (by simp)).trans (World.alloc_heap_new w _)
  have hb1 : Below w.heap.size w W1 := by
    rw [← hW1]; exact ((Below.refl _ w).alloc (Nat.le_refl _) _).alloc (by simp) _
  have hI1 : I [] W1 := hI _ _ _ h0 ((KeepsBut.below (T := fun _ => False) hb1).mono (fun k h => h.elim)) hb1
  have hsz1 : W1.heap.size = w.heap.size + 2 := by rw [← hW1]; simp
  refine ⟨w.heap.size + 1, [{ target := .collected w.heap.size, args := #[] }], W1, { target := .fn (.func gf) lb, args := #[.func (.yield (w.heap.size + 1)) #[] #[]] }, W1, gf,
    #[.func (.yield (w.heap.size + 1)) #[] #[]] ++ lb, W1, ?_, ?_, ?_, ?_, fun _ => h1, ?_⟩
  · rw [← hW1, hrec]; exact run_enterLoop_outer _ _ _ _ _
  · simp only [resolve, hg]
    simp [go_sem]
  · intro f' hf'; simp [Target.leads] at hf'; subst hf'; exact hFg
  · simp [invoke, go_sem, eg]
  · refine (hseq (w.heap.size + 1)
      (fun pre W => I pre W ∧ W.heap[w.heap.size + 1]? = some (.loop (rec .ready none)) ∧ W.heap[w.heap.size]? = some (.deferred (some [])))
      (fun pre W => ∃ c, Ix c pre W ∧ W.heap[w.heap.size + 1]? = some (.loop (rec .done (some c))) ∧ W.heap[w.heap.size]? = some (.deferred (some [])))
      W1 hb1 (by omega) (by omega)
      (fun s A B hs hb hbb => ⟨hI s A B hs.1 (hb.mono (fun k h => .inr (by omega))) (hbb.mono (by omega)), (hb.2 _ (Array.getElem?_eq_some_iff.1 hs.2.1).1 (by omega)).trans hs.2.1, (hb.2 _ (Array.getElem?_eq_some_iff.1 hs.2.2).1 (by omega)).trans hs.2.2⟩)
      ?_ ⟨hI1, hL1, hK1⟩).mono ?_
    · -- one round
      rintro pre x b W ⟨hi, hl, hk⟩ hsz hbW hpx hrow
      rw [hsz1] at hbW
      have hlt : w.heap.size + 1 < W.heap.size := (Array.getElem?_eq_some_iff.1 hl).1
      have hy := run_yield (P := P) (args := #[.slice (some ⟨b, 0, none⟩) sz sz]) hl (by rw [hrec]; exact hps.symm)
      rw [hrec] at hy
      refine ⟨fn, _, assign, body, hy, roundIn_of_wpIn hfn (hassign _ b W _ ⟨_, run_beginRound hl (by rw [hrec]), ?_⟩)⟩
      have hl2 : (W.putObj (w.heap.size + 1) (.loop { rec .ready none with state := .busy })).heap[w.heap.size + 1]? = some (.loop { rec .ready none with state := .busy }) := World.putObj_heap_same hlt
      have hk2 : (W.putObj (w.heap.size + 1) (.loop { rec .ready none with state := .busy })).heap[w.heap.size]? = some (.deferred (some [])) := (World.putObj_heap_other (by omega)).trans hk
      have hsz2 : (W.putObj (w.heap.size + 1) (.loop { rec .ready none with state := .busy })).heap.size = W.heap.size := by simp
      refine wpIn_mono (hbody _ pre x b _ (hI _ _ _ hi (KeepsBut.putObj W _ _ (Or.inl rfl)) (below_put W _ _ (by omega) hlt)) (by rw [hsz2]; omega) (by omega) hpx (hrow.but (KeepsBut.putObj (T := fun k => k = w.heap.size + 1) W _ _ rfl) (by omega))) ?_
      have fin : ∀ (jump : Option Code) (W3 : World), KeepsBut (fun k => k < w.heap.size) (W.putObj (w.heap.size + 1) (.loop { rec .ready none with state := .busy })) W3 →
          (Instr.endRound (w.heap.size + 1) jump).run P W3 = .ok (.bool jump.isNone) (W3.putObj (w.heap.size + 1) (.loop (rec (if jump.isNone then .ready else .done) jump))) ∧
          W3.heap[w.heap.size + 1]? = some (.loop { rec .ready none with state := .busy }) ∧
          (W3.putObj (w.heap.size + 1) (.loop (rec (if jump.isNone then .ready else .done) jump))).heap[w.heap.size + 1]? = some (.loop (rec (if jump.isNone then .ready else .done) jump)) ∧
          (W3.putObj (w.heap.size + 1) (.loop (rec (if jump.isNone then .ready else .done) jump))).heap[w.heap.size]? = some (.deferred (some [])) := fun jump W3 hk3 => by
        have hl3 := (hk3.2 _ (by rw [hsz2]; omega) (by omega)).trans hl2
        have := run_endRound (P := P) jump hl3
        rw [hrec] at this ⊢
        exact ⟨this, by rw [hrec] at hl3; exact hl3, World.putObj_heap_same (Array.getElem?_eq_some_iff.1 hl3).1, (World.putObj_heap_other (by omega)).trans ((hk3.2 _ (by rw [hsz2]; omega) (by omega)).trans hk2)⟩
      rintro e a3 W3 hp
      have close : ∀ {I' : World → Prop} (jump : Option Code), (∀ A B, I' A → KeepsBut (fun k => k = w.heap.size + 1 ∨ k = w.heap.size + 4) A B → Below w.heap.size A B → I' B) → I' W3 → W3.heap[w.heap.size + 1]? = some (.loop { rec .ready none with state := .busy }) → I' (W3.putObj (w.heap.size + 1) (.loop (rec (if jump.isNone then .ready else .done) jump))) :=
        fun jump hI' hi' hl' => hI' _ _ hi' (KeepsBut.putObj W3 _ _ (Or.inl rfl)) (below_put W3 _ _ (by omega) (Array.getElem?_eq_some_iff.1 hl').1)
      cases e with
      | normal =>
        obtain ⟨hk3, hi3⟩ := hp
        obtain ⟨hr, hl3, hl4, hk4⟩ := fin none W3 (hk3.mono hT)
        exact ⟨_, _, hr, .inl ⟨rfl, ⟨close none (hI _) hi3 hl3, hl4, hk4⟩, ((KeepsBut.putObj W _ _ (Or.inr rfl)).trans (hk3.mono (fun k hk => Or.inl hk))).trans (KeepsBut.putObj W3 _ _ (Or.inr rfl))⟩⟩
      | ret =>
        obtain ⟨hk3, hi3⟩ := hp
        obtain ⟨hr, hl3, hl4, hk4⟩ := fin (some .ret) W3 hk3
        exact ⟨_, _, hr, .inr ⟨rfl, ⟨.ret, hIx _ _ _ _ _ hi3 hl3, hl4, hk4⟩, ((KeepsBut.putObj W _ _ (Or.inr rfl)).trans (hk3.mono (fun k hk => Or.inl hk))).trans (KeepsBut.putObj W3 _ _ (Or.inr rfl))⟩⟩
      | exit id =>
        obtain ⟨hk3, hi3⟩ := hp
        obtain ⟨hr, hl3, hl4, hk4⟩ := fin (some (.exit id)) W3 hk3
        exact ⟨_, _, hr, .inr ⟨rfl, ⟨.exit id, hIx _ _ _ _ _ hi3 hl3, hl4, hk4⟩, ((KeepsBut.putObj W _ _ (Or.inr rfl)).trans (hk3.mono (fun k hk => Or.inl hk))).trans (KeepsBut.putObj W3 _ _ (Or.inr rfl))⟩⟩
      | goto t =>
        obtain ⟨hk3, hi3⟩ := hp
        obtain ⟨hr, hl3, hl4, hk4⟩ := fin (some (.goto t)) W3 hk3
        exact ⟨_, _, hr, .inr ⟨rfl, ⟨.goto t, hIx _ _ _ _ _ hi3 hl3, hl4, hk4⟩, ((KeepsBut.putObj W _ _ (Or.inr rfl)).trans (hk3.mono (fun k hk => Or.inl hk))).trans (KeepsBut.putObj W3 _ _ (Or.inr rfl))⟩⟩
      | panic ch => exact hp.elim
      | outgrown => exact hp.elim
    · -- behind the iterator
      rintro e W2 ⟨⟨v, rfl⟩, (⟨hi, hl, hk⟩ | ⟨pre, hSp, hne, c, hi, hl, hk⟩)⟩
      · exact ⟨none, _, by have := run_endLoop (P := P) hl (by rw [hrec]; simp); rw [hrec] at this; exact this, hdone _ _ (hI _ _ _ hi (KeepsBut.putObj W2 _ _ (Or.inl rfl)) (below_put W2 _ _ (by omega) (Array.getElem?_eq_some_iff.1 hl).1)) (Nat.le_refl _) ((World.putObj_heap_other (by omega)).trans hk)⟩
      · exact ⟨some c, _, by have := run_endLoop (P := P) hl (by rw [hrec]; simp); rw [hrec] at this; exact this, hstop _ c pre _ hSp hne (hIx _ _ _ _ _ hi hl) (Nat.le_refl _) ((World.putObj_heap_other (by omega)).trans hk)⟩

set_option maxHeartbeats 8000000 in
set_option maxRecDepth 100000 in
theorem extend_anyN (m : Nat) (T : Nat → Prop) (w W : World) (l ps py pn pe b sz cf : Nat) (lb : Array Value) (C : List Int → Nat) (Z : List (List Int)) (J Jx : List (List Int) → World → Prop)
    (ec : ∀ args w, (callFunc cf args).run Try.prog w = .ok (.enter cf args) w) (hch : ChoiceAt T w cf lb sz C) (hC : ∀ xs, C xs < 65536) (hsz : sz ≤ 16)
    (hW : Below w.heap.size w W) (hl1 : w.heap.size ≤ l) (hl2 : l < W.heap.size) (hT : ∀ k, T k → k < w.heap.size)
    (hps : ps < w.heap.size ∧ ¬ T ps) (hpn : pn < w.heap.size ∧ ¬ T pn) (hpy : W.heap.size ≤ py ∧ py ≠ b) (hpe : W.heap.size ≤ pe ∧ pe ≠ b) (hbW : W.heap.size ≤ b)
    (hJ : ∀ s A B, J s A → KeepsBut (fun k => k = b) A B → Below W.heap.size A B → J s B)
    (hY : ∀ pre x W1, J pre W1 → W.heap.size ≤ W1.heap.size → (pre ++ [x]) <+: Z → RowAt W1 (.slice (some ⟨b, 0, none⟩) sz sz) x → YieldAt Fence.wide (m - 1) Try.prog l #[.slice (some ⟨b, 0, none⟩) sz sz] W1 fun e W' =>
      (e = .returned (.bool true) ∧ J (pre ++ [x]) W' ∧ KeepsBut (fun k => T k ∨ k = l) W1 W') ∨ (e = .returned (.bool false) ∧ Jx (pre ++ [x]) W' ∧ KeepsBut (fun k => k < w.heap.size ∨ k = l) W1 W')) :
    ∀ (r : Nat) (xs : List Int) (pre : List (List Int)) (W1 : World), xs.length + r = sz → InL xs → KeepsBut T w W1 → W.heap.size ≤ W1.heap.size → J pre W1 → ExtIn W1 ps py pn pe sz l cf lb → OwnRow 2 W1 W.heap.size (.slice (some ⟨b, 0, none⟩) xs.length sz) xs → (pre ++ enumL C r xs) <+: Z →
      Calls Try.prog 74 #[.slice (some ⟨b, 0, none⟩) xs.length sz, .pointer (some ⟨ps, 0, none⟩), .pointer (some ⟨py, 0, none⟩), .pointer (some ⟨pn, 0, none⟩), .pointer (some ⟨pe, 0, none⟩)] W1
        (ExtPost T w W l b sz Z J Jx (pre ++ enumL C r xs) xs W1) := by
  obtain ⟨i0, hi, hz0, hz1, hz2⟩ := info_parts Try.infoI
  have hwW := hW.size
  have HNB : Hid (¬ (T b ∨ b = l)) := fun h => by
    rcases h with h | h
    · have := hT b h; omega
    · omega
  intro r
  induction r with
  | zero =>
    intro xs pre W1 hlen hin hk hz hj he ho hpre
    obtain rfl : xs.length = sz := by omega
    have ks := he.s
    have ky := he.y
    rw [show enumL C 0 xs = [xs] from rfl] at hpre ⊢
    obtain ⟨fn, tmps, assign, body, hy, hR⟩ := hY pre xs W1 hj hz hpre ho.row
    have HR := Lib.hid hR
    have HO := Lib.hid ho
    have HP := Lib.hid hpre
    have qe : ((xs.length : Int) == (xs.length : Int)) = true := by simp
    clear hR ho hpre hY hJ hj he hk hch ec hC hin hW hps hpn hpy hpe hT
    refine (callsIn_wide (n := m)).1 ?_
    refine callsIn_of_wp Try.func74 rfl trivial ?_ rfl
    simp only [Try.ntmps74, List.size_toArray, List.length_cons, List.length_nil, Nat.reduceAdd, Nat.reduceSub, Array.replicate_succ, Array.replicate_zero, List.push_toArray, List.append_toArray, List.nil_append, List.cons_append]
    gi_wp2
    refine ⟨fun h => (by cases h), HR.out.mono ?_⟩
    rintro e W3 (⟨rfl, hJ3, hk3⟩ | ⟨rfl, hJx3, hk3⟩)
    · have HX : Hid (ExtPost T w W l b xs.length Z J Jx (pre ++ [xs]) xs W1 (.returned (.bool true)) W3) := ⟨true, rfl, .inl ⟨rfl, hJ3, HO.out.blkB (hk3.2 _ (HO.out.lt b rfl).2 HNB.out), hk3.mono (fun k h => by rcases h with h | h; exact .inl h; exact .inr (.inl h))⟩⟩
      clear hJ3 hk3 hy ks ky
      gi_wp2
      go_ret
      exact HX.out
    · have HX : Hid (ExtPost T w W l b xs.length Z J Jx (pre ++ [xs]) xs W1 (.returned (.bool false)) W3) := ⟨false, rfl, .inr ⟨rfl, hk3.mono (fun k h => by rcases h with h | h; exact .inl h; exact .inr (.inl h)), _, HP.out, by simp, hJx3⟩⟩
      clear hJx3 hk3 hy ks ky
      gi_wp2
      go_ret
      exact HX.out
  | succ r ih =>
    intro xs pre W1 hlen hin hk hz hj he ho hpre
    have kn := he.n
    have ks := he.s
    have HO := Lib.hid ho
    have hbl : b < W1.heap.size := (ho.lt b rfl).2
    have HE := Lib.hid he
    have HJP := Lib.hid hj
    have HK := Lib.hid hk
    have HIN := Lib.hid hin
    have HPR := Lib.hid hpre
    have IH := Lib.hid ih
    have HJ := Lib.hid hJ
    have HCH := Lib.hid hch
    have HCL := Lib.hid hC
    have HT := Lib.hid hT
    have HYI := Lib.hid hY
    have qe : ((xs.length : Int) == (sz : Int)) = false := by rw [beq_eq_false_iff_ne]; omega
    have HNT : Hid (∀ k, W.heap.size ≤ k → k ≠ b → ¬ (T k ∨ k = l ∨ k = b)) := fun k h1 h2 h => by
      rcases h with h | h | h
      · have := hT k h; omega
      · omega
      · exact h2 h
    have HNP : Hid (¬ (T ps ∨ ps = l ∨ ps = b) ∧ ¬ (T pn ∨ pn = l ∨ pn = b)) := ⟨fun h => by rcases h with h | h | h; exact hps.2 h; omega; omega, fun h => by rcases h with h | h | h; exact hpn.2 h; omega; omega⟩
    clear ho he hj hk hin hpre ih hJ hC hT hY
    go_enter Try.func74, Try.ntmps74
    go_wp2_with fail
    refine (hch W1 _ xs HK.out HO.out.row HIN.out (by omega)).mono ?_
    rintro e W2 ⟨rfl, hb2⟩
    have HB2 := Lib.hid hb2
    clear hch hb2 kn ks
    go_wp2_with fail
    refine (list_any _ _ (HCL.out xs)).mono ?_
    rintro e W3 ⟨n3, a3, c3, rfl, ho3, hb3⟩
    have hls := listM_len (C xs)
    obtain ⟨a3', c3', e3⟩ := ho3.row.slice
    simp only [Value.slice.injEq] at e3
    obtain ⟨rfl, rfl, rfl⟩ := e3
    have HB3 : Hid (Below W1.heap.size W1 W3) := HB2.out.trans (hb3.mono HB2.out.size)
    have hz12 : W1.heap.size ≤ W2.heap.size := HB2.out.size
    have hz3 : W2.heap.size ≤ W3.heap.size := hb3.size
    have HL := Lib.hid ho3
    clear ho3 hb3 HB2
    go_wp2_with fail
    go_loopw [21] (fun qv wx => ∃ q : Nat, q ≤ (listM (C xs)).length ∧ qv = .int .i64 q ∧ J (pre ++ enumTo C r xs q) wx ∧ OwnRow 2 wx W.heap.size (.slice (some ⟨b, 0, none⟩) xs.length sz) xs ∧ KeepsBut (fun k => T k ∨ k = l ∨ k = b) W3 wx) (fun qv _ => (listM (C xs)).length - (intOf qv).toNat)
    case atStart => exact ⟨0, Nat.zero_le _, rfl, by simpa [enumTo] using HJ.out _ _ _ HJP.out (KeepsBut.below HB3.out) (HB3.out.mono hz), HO.out.keep HB3.out, KeepsBut.refl _ _⟩
    case round =>
      rename World => wx
      obtain ⟨q, hq, rfl, hjx, hox, hkx⟩ := hrel
      have HJX := Lib.hid hjx
      have HOX := Lib.hid hox
      have HKX := Lib.hid hkx
      have HK1X : Hid (KeepsBut (fun k => T k ∨ k = l ∨ k = b) W1 wx) := (KeepsBut.below HB3.out).trans hkx
      clear hjx hox hkx
      by_cases hlt : q < (listM (C xs)).length
      · obtain ⟨g, cap, e5, hgB, hgl, hc1, hc2⟩ := HL.out.posB (by omega)
        simp only [Value.slice.injEq, true_and] at e5
        obtain ⟨rfl, rfl⟩ := e5
        have hcq := HKX.out.cell (a := ⟨g, q, none⟩) (HNT.out g (by omega) (by omega)) (HL.out.cells' q hlt)
        obtain ⟨x, hx16, hxb, hxe⟩ := (listM_mem _ _).1 (nth_mem hlt)
        have HSU := Lib.hid (enumTo_succ (C := C) (r := r) hlt)
        rw [← hxe] at hcq HSU
        have HEX : Hid (ExtIn wx ps py pn pe sz l cf lb) := HE.out.but HK1X.out HNP.out.1 (HNT.out py hpy.1 hpy.2) HNP.out.2 (HNT.out pe hpe.1 hpe.2)
        have ke := HEX.out.e
        have hzx : W1.heap.size ≤ wx.heap.size := HK1X.out.1
        have KE : Hid (∀ W', Below wx.heap.size wx W' → W'.cell? ⟨pe, 0, none⟩ = some (.func (.func 74) #[] #[.pointer (some ⟨ps, 0, none⟩), .pointer (some ⟨py, 0, none⟩), .pointer (some ⟨pn, 0, none⟩), .pointer (some ⟨pe, 0, none⟩)])) := fun W' h => cell_keep h ke
        have HSET : Hid (∀ W' : World, W'.setCells b (0 + xs.length * 1) [.int .i64 (x : Int)] = W'.setCell ⟨b, xs.length, none⟩ (.int .i64 (x : Int))) := fun W' => by simp [World.setCells]
        have KE2 : Hid (∀ W', Below wx.heap.size wx W' → (W'.setCells b (0 + xs.length * 1) [.int .i64 (x : Int)]).cell? ⟨pe, 0, none⟩ = some (.func (.func 74) #[] #[.pointer (some ⟨ps, 0, none⟩), .pointer (some ⟨py, 0, none⟩), .pointer (some ⟨pn, 0, none⟩), .pointer (some ⟨pe, 0, none⟩)])) := fun W' h => by
          rw [HSET.out, cell_set_other _ (fun e => hpe.2 (congrArg Addr.block e).symm)]; exact KE.out _ h
        have HSET2 : Hid (∀ W' : World, W'.setCells b xs.length [.int .i64 (x : Int)] = W'.setCell ⟨b, xs.length, none⟩ (.int .i64 (x : Int))) := fun W' => rfl
        have KE3 : Hid (∀ W', Below wx.heap.size wx W' → (W'.setCells b xs.length [.int .i64 (x : Int)]).cell? ⟨pe, 0, none⟩ = some (.func (.func 74) #[] #[.pointer (some ⟨ps, 0, none⟩), .pointer (some ⟨py, 0, none⟩), .pointer (some ⟨pn, 0, none⟩), .pointer (some ⟨pe, 0, none⟩)])) := fun W' h => by
          rw [HSET2.out, cell_set_other _ (fun e => hpe.2 (congrArg Addr.block e).symm)]; exact KE.out _ h
        have HSPR : Hid (∀ W', Below wx.heap.size wx W' → ∀ j, j < ([.int .i64 (x : Int)] : List Value).length → (W'.cell? ⟨b, 0 + xs.length * 1 + j, none⟩).isSome = true ∧ W'.frozen? ⟨b, 0 + xs.length * 1 + j, none⟩ = false) := fun W' h j hj => by
          obtain rfl : j = 0 := by simpa using hj
          have := (HOX.out.keep h).room (by omega) (x := (x : Int)) (by unfold I64; omega)
          simp only [Nat.zero_add, Nat.mul_one, Nat.add_zero]
          exact ⟨this.2.2.1, this.2.2.2.1⟩
        have HST : Hid (∀ W', Below wx.heap.size wx W' → Calls Try.prog 74 #[.slice (some ⟨b, 0, none⟩) (xs.length + 1) sz, .pointer (some ⟨ps, 0, none⟩), .pointer (some ⟨py, 0, none⟩), .pointer (some ⟨pn, 0, none⟩), .pointer (some ⟨pe, 0, none⟩)] (W'.setCells b xs.length [.int .i64 (x : Int)]) fun e W5 =>
            ∃ t, e = .returned (.bool t) ∧ W5.cell? ⟨pe, 0, none⟩ = some (.func (.func 74) #[] #[.pointer (some ⟨ps, 0, none⟩), .pointer (some ⟨py, 0, none⟩), .pointer (some ⟨pn, 0, none⟩), .pointer (some ⟨pe, 0, none⟩)]) ∧
              ((t = true ∧ J (pre ++ enumTo C r xs (q + 1)) W5 ∧ OwnRow 2 W5 W.heap.size (.slice (some ⟨b, 0, none⟩) xs.length sz) xs ∧ KeepsBut (fun k => T k ∨ k = l ∨ k = b) W3 W5) ∨ (t = false ∧ KeepsBut (fun k => k < w.heap.size ∨ k = l ∨ k = b) W1 W5 ∧ ∃ pre', pre' <+: Z ∧ pre' ≠ [] ∧ Jx pre' W5))) := fun W' hb => by
          rw [HSET2.out]
          obtain ⟨r1, r2, r3, r4, r5⟩ := (HOX.out.keep hb).room (by omega) (x := (x : Int)) (by unfold I64; omega)
          have hkb : KeepsBut (fun k => T k ∨ k = l ∨ k = b) wx (W'.setCell ⟨b, xs.length, none⟩ (.int .i64 (x : Int))) := (KeepsBut.below hb).trans (KeepsBut.setCell _ _ _ (Or.inr (Or.inr rfl)))
          have hk1 := HK1X.out.trans hkb
          have hj4 : J (pre ++ enumTo C r xs q) (W'.setCell ⟨b, xs.length, none⟩ (.int .i64 (x : Int))) := HJ.out _ _ _ HJX.out ((KeepsBut.below hb).trans (KeepsBut.setCell _ _ _ rfl)) (Below.setCell (B := W.heap.size) (p := ⟨b, xs.length, none⟩) (hb.mono (by omega)) hbW _)
          have he4 := HE.out.but hk1 HNP.out.1 (HNT.out py hpy.1 hpy.2) HNP.out.2 (HNT.out pe hpe.1 hpe.2)
          have hpx : (pre ++ enumTo C r xs q ++ enumL C r (xs ++ [(x : Int)])) <+: Z := by
            rw [List.append_assoc, ← HSU.out]
            exact List.IsPrefix.trans ((List.prefix_append_right_inj _).2 enumTo_prefix) HPR.out
          have := IH.out (xs ++ [(x : Int)]) (pre ++ enumTo C r xs q) _ (by simp; omega) (HIN.out.snoc (by omega) (by omega)) (keeps_less HK.out hk1 hl1 (by omega)) (Nat.le_trans hz hk1.1) hj4 he4 (by simpa using r1) hpx
          simp only [List.length_append, List.length_singleton] at this
          refine this.mono ?_
          rintro e W5 ⟨t, rfl, h⟩
          rcases h with ⟨rfl, h1, h2, h3⟩ | ⟨rfl, h1, h2⟩
          · exact ⟨true, rfl, h3.cell (HNT.out pe hpe.1 hpe.2) he4.e, .inl ⟨rfl, by rw [HSU.out, ← List.append_assoc]; exact h1, h2.less, HKX.out.trans (hkb.trans h3)⟩⟩
          · exact ⟨false, rfl, h1.cell (fun h => by rcases h with h | h | h; (have := hpe.1; simp at h; omega); (have := hpe.1; simp at h; omega); exact hpe.2 h) he4.e, .inr ⟨rfl, (hk1.mono (fun k h => by rcases h with h | h | h; exact .inl (HT.out k h); exact .inr (.inl h); exact .inr (.inr h))).trans h1, h2⟩⟩
        have HYB : Hid (Below wx.heap.size wx (wx.alloc (.cells #[.int .i64 (x : Int)] 2)).drew) := ((Below.refl _ _).alloc (Nat.le_refl _) _).drew
        clear hxb hxe HEX
        go_wp2_with fail
        go_cut [31] (fun tv W5 => ∃ t, tv = .bool (!t) ∧ ((t = true ∧ J (pre ++ enumTo C r xs (q + 1)) W5 ∧ OwnRow 2 W5 W.heap.size (.slice (some ⟨b, 0, none⟩) xs.length sz) xs ∧ KeepsBut (fun k => T k ∨ k = l ∨ k = b) W3 W5) ∨ (t = false ∧ KeepsBut (fun k => k < w.heap.size ∨ k = l ∨ k = b) W1 W5 ∧ ∃ pre', pre' <+: Z ∧ pre' ≠ [] ∧ Jx pre' W5)))
        case first =>
          go_region_held3 (fun wy => wy.cell? ⟨pe, 0, none⟩ = some (.func (.func 74) #[] #[.pointer (some ⟨ps, 0, none⟩), .pointer (some ⟨py, 0, none⟩), .pointer (some ⟨pn, 0, none⟩), .pointer (some ⟨pe, 0, none⟩)])) (first | exact ke | with_reducible exact KE.out _ (Below.refl _ _).drew | with_reducible exact KE.out _ HYB.out | with_reducible exact KE2.out _ HYB.out | with_reducible exact KE3.out _ HYB.out | exact ke5)
            (first
              | (refine step_append_room (by rfl) (.tmp 26) (.tmp 28) 29 (by rfl) 2 i0 1 Try.underlying29 hi hz1 b 0 xs.length sz (by rfl) ⟨wx.heap.size, 0, none⟩ 1 1 [.int .i64 (x : Int)] (by rfl) (by rfl) (lit_at _ _ _) (one_cell _) (by omega) (HSPR.out _ HYB.out) ?_)
              | (go_at_call 74; refine (HST.out _ HYB.out).mono ?_; rintro e W5 ⟨t, rfl, ke5, h5⟩; have H5 := Lib.hid h5; clear h5))
          all_goals (
            go_wp2_with fail
            go_meet
            exact ⟨_, rfl, H5.out⟩)
        case rest =>
          rename World => W5
          obtain ⟨t, rfl, h⟩ := hcut
          have H5 := Lib.hid h
          clear h ke hcq
          cases t with
          | true =>
            have HR : Hid (J (pre ++ enumTo C r xs (q + 1)) W5 ∧ OwnRow 2 W5 W.heap.size (.slice (some ⟨b, 0, none⟩) xs.length sz) xs ∧ KeepsBut (fun k => T k ∨ k = l ∨ k = b) W3 W5) := by
              rcases H5.out with ⟨_, h⟩ | ⟨h, _⟩
              · exact h
              · cases h
            clear H5
            simp only [Bool.not_true]
            go_wp2
            go_roundw
            case rel => exact ⟨q + 1, by omega, by go_num, HR.out⟩
            case measure => simp [intOf]; omega
          | false =>
            have HX : Hid (ExtPost T w W l b sz Z J Jx (pre ++ enumL C (r + 1) xs) xs W1 (.returned (.bool false)) W5) := by
              rcases H5.out with ⟨h, _⟩ | ⟨_, h⟩
              · cases h
              · exact ⟨false, rfl, .inr ⟨rfl, h⟩⟩
            clear H5
            simp only [Bool.not_false]
            go_wp2
            go_ret
            exact HX.out
      · obtain rfl : q = (listM (C xs)).length := by omega
        have HX : Hid (ExtPost T w W l b sz Z J Jx (pre ++ enumL C (r + 1) xs) xs W1 (.returned (.bool true)) wx) := ⟨true, rfl, .inl ⟨rfl, by have := HJX.out; rwa [enumTo_all] at this, HOX.out, HK1X.out⟩⟩
        go_wp2
        go_ret
        exact HX.out

set_option maxHeartbeats 1000000 in
set_option maxRecDepth 100000 in
theorem lists1_seqN (m : Nat) (T : Nat → Prop) (w : World) (ps pn sz cf : Nat) (lb : Array Value) (C : List Int → Nat)
    (ec : ∀ args w, (callFunc cf args).run Try.prog w = .ok (.enter cf args) w) (hch : ChoiceAt T w cf lb sz C) (hC : ∀ xs, C xs < 65536) (hsz : sz ≤ 16) (hT : ∀ k, T k → k < w.heap.size)
    (ks : w.cell? ⟨ps, 0, none⟩ = some (.int .i64 (sz : Int))) (kn : w.cell? ⟨pn, 0, none⟩ = some (.func (.func cf) #[] lb)) (hps : ¬ T ps) (hpn : ¬ T pn) :
    SeqRowN Fence.wide m Try.prog 73 #[.pointer (some ⟨ps, 0, none⟩), .pointer (some ⟨pn, 0, none⟩)] T sz (enumL C sz []) w := by
  intro l J Jx W hW hl1 hl2 hJ hY h0
  obtain ⟨i0, hi, hz0, hz1, hz2⟩ := info_parts Try.infoI
  have hmf : ∀ (fn : Fn) (first cap : Array Value) (w : World), (Instr.makeFunc fn first cap).run Try.prog w = .ok (.func fn first cap) w := fun _ _ _ _ => rfl
  have hmk : ∀ (w : World), (Instr.makeSlice 29 (.int .i64 0) (.int .i64 (sz : Int))).run Try.prog w = .ok (.slice (some ⟨w.heap.size, 0, none⟩) 0 sz) (w.alloc (.cells (madeCells #[.int .i64 0] sz) 2)) := fun w => by
    have := run_makeSlice (P := Try.prog) w 29 2 i0 (.int .i64 0) Try.underlying29 hi hz0 .i64 .i64 0 (sz : Int) (Int.le_refl _) (by omega) (by rw [hz1]; simp; omega) (by rw [hz2]; omega) (by omega)
    rw [hz1] at this
    simpa [Value.cells] using this
  have hlp : ps < w.heap.size := block_lt_of_cell ks
  have hln : pn < w.heap.size := block_lt_of_cell kn
  have hwW := hW.size
  obtain ⟨ext, hext⟩ : ∃ ext, ext = Value.func (.func 74) #[] #[.pointer (some ⟨ps, 0, none⟩), .pointer (some ⟨W.heap.size, 0, none⟩), .pointer (some ⟨pn, 0, none⟩), .pointer (some ⟨W.heap.size + 1, 0, none⟩)] := ⟨_, rfl⟩
  obtain ⟨W0, hW0⟩ : ∃ W0, (W.alloc (.cells #[.func (.yield l) #[] #[]] 98)).alloc (.cells #[ext] 98) = W0 := ⟨_, rfl⟩
  have hb0 : Below W.heap.size W W0 := by rw [← hW0]; exact ((Below.refl _ _).alloc (Nat.le_refl _) _).alloc (by simp) _
  have hs0 : W0.heap.size = W.heap.size + 2 := by rw [← hW0]; simp
  have ky : W0.cell? ⟨W.heap.size, 0, none⟩ = some (.func (.yield l) #[] #[]) := by rw [← hW0]; go_simp
  have ke : W0.cell? ⟨W.heap.size + 1, 0, none⟩ = some ext := by rw [← hW0]; go_simp
  have ks0 : W0.cell? ⟨ps, 0, none⟩ = some (.int .i64 (sz : Int)) := by rw [hb0.cell (by show ps < _; omega)]; exact cell_keep hW ks
  have kn0 : W0.cell? ⟨pn, 0, none⟩ = some (.func (.func cf) #[] lb) := by rw [hb0.cell (by show pn < _; omega)]; exact cell_keep hW kn
  have HCALL : Hid (∀ W1, W1 = (W0.alloc (.cells (madeCells #[.int .i64 0] sz) 2)) ∨ W1 = (W0.alloc (.cells (madeCells #[.int .i64 0] sz) 2)).drew → Calls Try.prog 74 #[.slice (some ⟨W0.heap.size, 0, none⟩) 0 sz, .pointer (some ⟨ps, 0, none⟩), .pointer (some ⟨W.heap.size, 0, none⟩), .pointer (some ⟨pn, 0, none⟩), .pointer (some ⟨W.heap.size + 1, 0, none⟩)] W1 fun e W' => ∃ t, e = .returned (.bool t) ∧ (J (enumL C sz []) W' ∨ ∃ pre, pre <+: enumL C sz [] ∧ pre ≠ [] ∧ Jx pre W')) := fun W1 hW1 => by
    have hb1 : Below W0.heap.size W0 W1 := by
      rcases hW1 with h | h
      · rw [h]; exact (Below.refl _ _).alloc (Nat.le_refl _) _
      · rw [h]; exact ((Below.refl _ _).alloc (Nat.le_refl _) _).drew
    have hbW1 : Below W.heap.size W W1 := hb0.trans (hb1.mono (by omega))
    have hs1 : W0.heap.size + 1 ≤ W1.heap.size := by
      rcases hW1 with h | h
      · rw [h, size_alloc1]; exact Nat.le_refl _
      · rw [h]; show _ ≤ (W0.alloc _).heap.size; rw [size_alloc1]; exact Nat.le_refl _
    have how : OwnRow 2 W1 W.heap.size (.slice (some ⟨W0.heap.size, 0, none⟩) 0 sz) [] := by
      have := made_row W0 W.heap.size sz (by omega) (by unfold maxLen; omega)
      rcases hW1 with h | h
      · rw [h]; exact this
      · rw [h]; exact this.keep (Below.refl _ _).drew
    refine (extend_anyN m T w W l ps W.heap.size pn (W.heap.size + 1) W0.heap.size sz cf lb C (enumL C sz []) J Jx ec hch hC hsz hW hl1 hl2 hT ⟨hlp, hps⟩ ⟨hln, hpn⟩ ⟨Nat.le_refl _, by omega⟩ ⟨by omega, by omega⟩ (by omega) (fun s A B h k kb => hJ s A B h (k.mono (fun j e => by omega)) kb) (fun pre x W1 h1 h2 h3 h4 => hY pre x W0.heap.size W1 h1 h2 (by omega) h3 h4) sz [] [] W1 (by simp) InL.nil ((KeepsBut.below hW).trans ((KeepsBut.below (T := fun _ => False) hbW1).mono (fun k h => h.elim))) hbW1.size (hJ _ _ _ h0 ((KeepsBut.below (T := fun _ => False) hbW1).mono (fun k h => h.elim)) hbW1) ?_ how (List.prefix_rfl)).mono ?_
    · exact ⟨cell_keep hb1 ks0, cell_keep hb1 ky, cell_keep hb1 kn0, by have := cell_keep hb1 ke; rw [hext] at this; exact this⟩
    · rintro e W' ⟨t, rfl, ⟨_, h, _⟩ | ⟨_, _, h⟩⟩
      · exact ⟨t, rfl, .inl (by simpa using h)⟩
      · exact ⟨t, rfl, .inr h⟩
  refine callsIn_wide.2 ?_
  simp only [List.append_toArray, List.cons_append, List.nil_append]
  clear hY hJ h0 hch hC hW hT hps hpn ks kn
  go_enter Try.func73, Try.ntmps73
  go_wp2_with fail
  rw [← hext, hW0]
  clear hW0 hmf
  rw [hext] at ke
  have keA := cell_keep ((Below.refl W0.heap.size W0).alloc (Nat.le_refl _) (.cells (madeCells #[.int .i64 0] sz) 2)) ke
  clear hext hs0 hb0 hwW hlp hln ec hz0 hz1 hz2 hi i0 kn0 ky hl1 hl2
  go_region_law (first
    | (go_simp; go_at_call 74; refine (HCALL.out _ (by first | exact .inl rfl | exact .inr rfl)).mono ?_; rintro e W5 ⟨t, rfl, h5⟩; have H5 := Lib.hid h5; clear h5))
  all_goals (
    go_wp2
    go_end0
    exact ⟨⟨_, rfl⟩, H5.out⟩)

end Go.Proofs.Ytgeifbgjfbfcfaa
