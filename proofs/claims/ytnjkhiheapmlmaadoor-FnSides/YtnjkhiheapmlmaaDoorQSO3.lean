/- The texts SO3, SO4, SO5, joined. -/
import Derived.Test.YtnjkhiheapmlmaaDoorQSO1
import Derived.Test.YtnjkhiheapmlmaaDoorQH0
import Derived.Test.YtnjkhiheapmlmaaDoorX1
import Derived.Test.YtnjkhiheapmlmaaDoorQZ3

/- Walks: whether no two neighbours have one side, of the program. -/
namespace Go.Proofs.YtnjkhiheapmlmaaDoor
open Go.RowKit

open Classical in
set_option maxHeartbeats 4000000 in
set_option maxRecDepth 100000 in
theorem apart_any (bn : Nat) (L : List (List Int)) (v : Value) (w : World) (hG : GraphP L) (h : NetAt w bn L.length (rowM L)) (hv : RowAt w v (sideL L)) :
    Calls Tryd.prog 29 #[.pointer (some ⟨bn, 0, none⟩), v] w fun e w' => e = .returned (.bool (decide (ApartP L))) ∧ Below w.heap.size w w' := by
  have hz := hG.1
  have HLT : Hid (∀ i, rowM L i < 65536) := fun i => rowM_lt (by omega) (fun v hv => (hG.2.1 v hv).1) i
  have HG := Lib.hid hG
  obtain ⟨bs, os, cs, rfl, ls1, ls2, hcs⟩ := hv.pos (by rw [sideL_len]; omega)
  rw [sideL_len] at ls1 hcs ⊢
  have HCS : Hid (∀ w', Below w.heap.size w w' → ∀ u, u < L.length → w'.cell? ⟨bs, os + u, none⟩ = some (.int .i64 (sideV L u))) := fun w' hb u hu => by have := cell_keep hb (hcs u hu); rwa [sideL_nth hu] at this
  have hn0 := h.1
  have HN : Hid (∀ w', Below w.heap.size w w' → NetAt w' bn L.length (rowM L)) := fun w' hb => h.keep hb
  clear hG h hv hcs
  go_enter Tryd.func29, Tryd.ntmps29
  go_wp2_with fail
  clear hn0
  go_loopw [12] (fun iv wr => ∃ s : Nat, s ≤ L.length ∧ iv = .int .i64 s ∧ (∀ a b, a < s → b < L.length → adjB L a b = true → sideV L a ≠ sideV L b) ∧ Below w.heap.size w wr) (fun iv _ => L.length - (intOf iv).toNat)
  case atStart => exact ⟨0, Nat.zero_le _, rfl, fun a b ha => absurd ha (by omega), Below.refl _ _⟩
  case round =>
    obtain ⟨s, hs, rfl, hap, hb⟩ := hrel
    have HAP := Lib.hid hap
    have HB := Lib.hid hb
    clear hap
    by_cases hsl : s < L.length
    · have hcn := (HN.out _ hb).2 s (by omega)
      have HST := Lib.hid (HG.out.2.1 s hsl).1
      have hrl : (nthR L s).length ≤ 16 := by have := HST.out.len (by omega); omega
      clear hb
      go_wp2_with fail
      refine (list_any (rowM L s) _ (HLT.out s)).mono ?_
      rintro e w4 ⟨n4, a4, c4, rfl, ho4, hb4⟩
      rw [row_listM HG.out hsl] at ho4
      have HB4 : Hid (Below w.heap.size w w4) := HB.out.trans (hb4.mono HB.out.size)
      obtain ⟨a4', c4', e4⟩ := ho4.row.slice
      simp only [Value.slice.injEq] at e4
      obtain ⟨rfl, rfl, rfl⟩ := e4
      have HR4 : Hid (∀ w', Drawn w4 w' → RowAt w' (.slice a4 (nthR L s).length c4) (nthR L s)) := fun w' hd => ho4.row.keep (hd.below _)
      have hsc := HCS.out _ HB4.out s hsl
      have HSC : Hid (∀ w', Drawn w4 w' → ∀ u, u < L.length → w'.cell? ⟨bs, os + u, none⟩ = some (.int .i64 (sideV L u))) := fun w' hd => HCS.out _ (HB4.out.trans (hd.below _))
      clear ho4 hb4 hcn HB hsc
      go_wp2_with fail
      go_loopw [23] (fun kv wr => ∃ k : Nat, k ≤ (nthR L s).length ∧ kv = .int .i64 k ∧ (∀ q, q < k → sideV L s ≠ sideV L (nth (nthR L s) q).toNat) ∧ Drawn w4 wr) (fun kv _ => (nthR L s).length - (intOf kv).toNat)
      case atStart => exact ⟨0, Nat.zero_le _, rfl, fun q hq => absurd hq (by omega), Drawn.refl _⟩
      case round =>
        rename World => wx
        obtain ⟨k, hk, rfl, hne, hd⟩ := hrel
        have HNE := Lib.hid hne
        have HD := Lib.hid hd
        have hrow := HR4.out _ hd
        clear hne
        by_cases hkl : k < (nthR L s).length
        · have hst := HST.out k hkl
          obtain ⟨u, hu⟩ : ∃ u : Nat, nth (nthR L s) k = (u : Int) := ⟨(nth (nthR L s) k).toNat, by have := hst.1; omega⟩
          have hun : u < L.length := by have := hst.2.1; omega
          have hadj : adjB L s u = true := by rw [← adjB_has HG.out hsl (by omega), ← hu]; exact (hasB_mem _ _).2 (nth_mem hkl)
          obtain ⟨b1, o1, c1, e1, m1, m2, hcr⟩ := hrow.pos (by omega)
          simp only [Value.slice.injEq, true_and] at e1
          obtain ⟨rfl, rfl⟩ := e1
          have hcu := hcr k hkl
          rw [hu] at hcu
          have hs1 := HSC.out _ hd s hsl
          have hs2 := HSC.out _ hd u hun
          have HAD := Lib.hid hadj
          have HU := Lib.hid hu
          obtain ⟨Ss, hSs⟩ : ∃ Ss, Ss = sideV L s := ⟨_, rfl⟩
          obtain ⟨Su, hSu⟩ : ∃ Su, Su = sideV L u := ⟨_, rfl⟩
          rw [← hSs] at hs1
          rw [← hSu] at hs2
          have HSs := Lib.hid hSs
          have HSu := Lib.hid hSu
          clear hadj hu hst hrow hcr hd hSs hSu
          by_cases hss : Su = Ss
          · have HF : Hid (decide (ApartP L) = false) := by show _ = _; rw [decide_eq_false_iff_not]; exact fun hh => hh s u hsl hun HAD.out (by rw [← HSs.out, ← HSu.out]; exact hss.symm)
            subst hss
            clear HSs HSu
            go_wp2
            go_quiet (fail)
            go_wp2
            rename_i nq
            go_ret
            exact ⟨ret_bool HF.out.symm, HB4.out.trans ((HD.out.more nq).below _)⟩
          · have q1 : (Su == Ss) = false := by rw [beq_eq_false_iff_ne]; exact hss
            have HNX : Hid (∀ q, q < k + 1 → sideV L s ≠ sideV L (nth (nthR L s) q).toNat) := fun q hq => by
              rcases Nat.lt_succ_iff_lt_or_eq.1 hq with hq | rfl
              · exact HNE.out q hq
              · rw [HU.out, Int.toNat_natCast, ← HSs.out, ← HSu.out]; exact fun e => hss e.symm
            clear hss HSs HSu
            go_wp2
            go_quiet (fail)
            go_wp2
            go_roundw
            case rel => exact ⟨k + 1, by omega, by go_num, HNX.out, HD.out.more _⟩
            case measure => simp [intOf]; omega
        · obtain rfl : k = (nthR L s).length := by omega
          have HNX : Hid (∀ a b, a < s + 1 → b < L.length → adjB L a b = true → sideV L a ≠ sideV L b) := fun a b ha hb2 hab => by
            rcases Nat.lt_succ_iff_lt_or_eq.1 ha with ha | rfl
            · exact HAP.out a b ha hb2 hab
            · have hm : (b : Int) ∈ nthR L a := (hasB_mem _ _).1 (by rw [adjB_has HG.out hsl (by omega)]; exact hab)
              obtain ⟨q, hq, e⟩ := List.getElem_of_mem hm
              have := HNE.out q hq
              rwa [nth_eq hq, e, Int.toNat_natCast] at this
          clear hrow hd
          go_wp2
          go_roundw
          case rel => exact ⟨s + 1, by omega, by go_num, HNX.out, HB4.out.trans (HD.out.below _)⟩
          case measure => simp [intOf]; omega
    · obtain rfl : s = L.length := by omega
      have HF : Hid (decide (ApartP L) = true) := by show _ = _; rw [decide_eq_true_iff]; exact fun a b ha hb2 hab => HAP.out a b ha hb2 hab
      clear hb
      go_wp2
      go_ret
      exact ⟨ret_bool HF.out.symm, HB.out⟩

end Go.Proofs.YtnjkhiheapmlmaaDoor

/- A law of loops over an iterator that keeps cells of its own, within a round of another loop; the body ends in the common way alone. No statement of the program. -/
namespace Go.Proofs.YtnjkhiheapmlmaaDoor
open Go.RowKit

variable {F : Fence} {n : Nat} {P : Program}

theorem SeqVis.inRound {α : Type} {g : Nat} {lb : Array Value} {encs : α → Array Value} {T : Nat → Prop} {Px : List α → α → Prop} {S Sp : List α → Prop} {w : World} (l : Nat)
    (h : SeqVis F n P g lb encs T Px S Sp w) : SeqVis (F.inRound l) n P g lb encs T Px S Sp w := h

/-- How the body of a round is left. -/
def visEnd {α : Type} (T : Nat → Prop) (I : List α → World → Prop) (xs : List α) (W : World) : Exit → Act → World → Prop
  | .normal, _, W' => KeepsBut T W W' ∧ I xs W'
  | .ret, _, _ => False
  | .exit _, _, _ => False
  | .goto _, _, _ => False
  | .panic _, _, _ => False
  | .outgrown, _, _ => False

theorem wpIn_rangeFunc_visN {α : Type} {g : Operand} {ps : Array Tmp} {assign body : Code} {Q : Exit → Act → World → Prop} {a : Act} {w : World} {l₀ : Nat} {r₀ : Loop}
    (hro : F.round = some l₀) (hl0 : w.heap[l₀]? = some (.loop r₀)) (h1 : 1 ≤ n) {gf : Nat} {lb : Array Value} (hg : a.eval g = .func (.func gf) #[] lb) (hFg : F.fn gf) (eg : ∀ args w, (callFunc gf args).run P w = .ok (.enter gf args) w)
    {encs : α → Array Value} {T : Nat → Prop} {Px : List α → α → Prop} {S Sp : List α → Prop} (hseq : SeqVis F (n - 1) P gf lb encs T Px S Sp w)
    (hT : ∀ k, T k → k < w.heap.size) (hps : ∀ x, (encs x).size = ps.size)
    (I : List α → World → Prop) (hI : ∀ s A B, I s A → Below w.heap.size A B → I s B) (h0 : I [] w) (a₁ : α → Act)
    (hassign : ∀ (l : Nat) (x : α) (W : World) (K : Act → World → Prop), K (a₁ x) W →
      assign.wpIn (F.inRound l) (n - 1 - 1) P (Exit.then K (fun _ _ _ => False)) { tmps := (ps.zip (encs x)).foldl (fun t (p, v) => t.setIfInBounds p v) a.tmps, defers := [] } W)
    (hbody : ∀ (l : Nat) (pre : List α) (x : α) (W : World), I pre W → w.heap.size ≤ W.heap.size → Px pre x → body.wpIn (F.inRound l) (n - 1 - 1) P (visEnd T I (pre ++ [x]) W) (a₁ x) W)
    (hdone : ∀ (xs : List α) (W : World), S xs → I xs W → Q .normal a W) :
    (Code.rangeFunc g ps assign body).wpIn F n P Q a w := by
  refine wpIn_rangeFunc ?_
  intro fn hfn
  rw [hro]
  obtain ⟨rec, hrec⟩ : ∃ rec : LoopState → Option Code → Loop, rec = fun st pe => { state := st, pending := pe, fn, tmps := a.tmps, params := ps, assign, body, defers := r₀.defers } := ⟨_, rfl⟩
  obtain ⟨W1, hW1⟩ : ∃ W1, w.alloc (.loop (rec .ready none)) = W1 := ⟨_, rfl⟩
  have hL1 : W1.heap[w.heap.size]? = some (.loop (rec .ready none)) := by rw [← hW1]; exact World.alloc_heap_new w _
  have hb1 : Below w.heap.size w W1 := by rw [← hW1]; exact (Below.refl _ w).alloc (Nat.le_refl _) _
  have hI1 : I [] W1 := hI _ _ _ h0 hb1
  have hsz1 : W1.heap.size = w.heap.size + 1 := by rw [← hW1]; simp
  refine ⟨w.heap.size, [], W1, { target := .fn (.func gf) lb, args := #[.func (.yield w.heap.size) #[] #[]] }, W1, gf,
    #[.func (.yield w.heap.size) #[] #[]] ++ lb, W1, ?_, ?_, ?_, ?_, fun _ => h1, ?_⟩
  · rw [← hW1, hrec]; exact run_enterLoop_inner hl0 _ _ _ _ _
  · simp only [resolve, hg]
    simp [go_sem]
  · intro f' hf'; simp [Target.leads] at hf'; subst hf'; exact hFg
  · simp [invoke, go_sem, eg]
  · refine (hseq w.heap.size
      (fun pre W => I pre W ∧ W.heap[w.heap.size]? = some (.loop (rec .ready none)))
      (fun _ _ => False)
      W1 hb1 (Nat.le_refl _) (by omega)
      (fun s A B hs hb => ⟨hI s A B hs.1 (hb.mono (by omega)), (hb.block _ (by omega)).trans hs.2⟩)
      ?_ ⟨hI1, hL1⟩).mono ?_
    · -- one round
      rintro pre x W ⟨hi, hl⟩ hsz hpx
      have hlt : w.heap.size < W.heap.size := (Array.getElem?_eq_some_iff.1 hl).1
      have hy := run_yield (P := P) (args := encs x) hl (by rw [hrec]; exact hps x)
      rw [hrec] at hy
      refine ⟨fn, _, assign, body, hy, roundIn_of_wpIn hfn (hassign _ x W _ ⟨_, run_beginRound hl (by rw [hrec]), ?_⟩)⟩
      have hl2 : (W.putObj w.heap.size (.loop { rec .ready none with state := .busy })).heap[w.heap.size]? = some (.loop { rec .ready none with state := .busy }) := World.putObj_heap_same hlt
      have hsz2 : (W.putObj w.heap.size (.loop { rec .ready none with state := .busy })).heap.size = W.heap.size := by simp
      refine wpIn_mono (hbody _ pre x _ (hI _ _ _ hi (below_put W _ _ (Nat.le_refl _) hlt)) (by rw [hsz2]; omega) hpx) ?_
      rintro e a3 W3 hp
      cases e with
      | normal =>
        obtain ⟨hk3, hi3⟩ := hp
        have hl3 := (hk3.2 _ (by rw [hsz2]; omega) (fun h => by have := hT _ h; omega)).trans hl2
        have hr := run_endRound (P := P) none hl3
        rw [hrec] at hr
        refine ⟨_, _, hr, .inl ⟨rfl, ⟨hI _ _ _ hi3 (below_put W3 _ _ (Nat.le_refl _) (Array.getElem?_eq_some_iff.1 hl3).1), ?_⟩, ((KeepsBut.putObj W _ _ (Or.inr rfl)).trans (hk3.mono (fun k hk => Or.inl hk))).trans (KeepsBut.putObj W3 _ _ (Or.inr rfl))⟩⟩
        rw [hrec]
        exact World.putObj_heap_same (Array.getElem?_eq_some_iff.1 hl3).1
      | ret => exact hp.elim
      | exit id => exact hp.elim
      | goto t => exact hp.elim
      | panic ch => exact hp.elim
      | outgrown => exact hp.elim
    · -- behind the iterator
      rintro e W2 ⟨⟨v, rfl⟩, (⟨xs, hS, hi, hl⟩ | ⟨pre, hSp, hF⟩)⟩
      · exact ⟨none, _, by have := run_endLoop (P := P) hl (by rw [hrec]; simp); rw [hrec] at this; exact this, hdone xs _ hS (hI _ _ _ hi (below_put W2 _ _ (Nat.le_refl _) (Array.getElem?_eq_some_iff.1 hl).1))⟩
      · exact hF.elim

/-- X1's law, where the body is told of its own loop's record (a loop within it wants that). -/
theorem wpIn_rangeFunc_visH {α : Type} {g : Operand} {ps : Array Tmp} {assign body : Code} {Q : Exit → Act → World → Prop} {a : Act} {w : World}
    (hro : F.round = none) (h1 : 1 ≤ n) {gf : Nat} {lb : Array Value} (hg : a.eval g = .func (.func gf) #[] lb) (hFg : F.fn gf) (eg : ∀ args w, (callFunc gf args).run P w = .ok (.enter gf args) w)
    {encs : α → Array Value} {T : Nat → Prop} {Px : List α → α → Prop} {S Sp : List α → Prop} (hseq : SeqVis F (n - 1) P gf lb encs T Px S Sp w)
    (hT : ∀ k, T k → k < w.heap.size) (hps : ∀ x, (encs x).size = ps.size)
    (I : List α → World → Prop) (Ix : Code → List α → World → Prop) (hI : ∀ s A B, I s A → Below w.heap.size A B → I s B) (hIx : ∀ c s A r o, Ix c s A → A.heap[w.heap.size + 1]? = some (.loop r) → Ix c s (A.putObj (w.heap.size + 1) o)) (h0 : I [] w) (a₁ : α → Act)
    (hassign : ∀ (l : Nat) (x : α) (W : World) (K : Act → World → Prop), K (a₁ x) W →
      assign.wpIn (F.inRound l) (n - 1 - 1) P (Exit.then K (fun _ _ _ => False)) { tmps := (ps.zip (encs x)).foldl (fun t (p, v) => t.setIfInBounds p v) a.tmps, defers := [] } W)
    (hbody : ∀ (l : Nat) (pre : List α) (x : α) (W : World), (∃ r, W.heap[l]? = some (.loop r)) → I pre W → w.heap.size ≤ W.heap.size → Px pre x → body.wpIn (F.inRound l) (n - 1 - 1) P (visPost w.heap.size T I Ix (pre ++ [x]) W) (a₁ x) W)
    (hdone : ∀ (D : Nat) (xs : List α) (W : World), S xs → I xs W → w.heap.size ≤ D → W.heap[D]? = some (.deferred (some [])) → Q .normal { a with defers := { target := .collected D, args := #[] } :: a.defers } W)
    (hstop : ∀ (D : Nat) (c : Code) (pre : List α) (W : World), Sp pre → Ix c pre W → w.heap.size ≤ D → W.heap[D]? = some (.deferred (some [])) → c.wpIn F n P Q { a with defers := { target := .collected D, args := #[] } :: a.defers } W) :
    (Code.rangeFunc g ps assign body).wpIn F n P Q a w := by
  refine wpIn_rangeFunc ?_
  intro fn hfn
  rw [hro]
  obtain ⟨rec, hrec⟩ : ∃ rec : LoopState → Option Code → Loop, rec = fun st pe => { state := st, pending := pe, fn, tmps := a.tmps, params := ps, assign, body, defers := w.heap.size } := ⟨_, rfl⟩
  obtain ⟨W1, hW1⟩ : ∃ W1, (w.alloc (.deferred (some []))).alloc (.loop (rec .ready none)) = W1 := ⟨_, rfl⟩
  have hL1 : W1.heap[w.heap.size + 1]? = some (.loop (rec .ready none)) := by
    rw [← hW1]; have := World.alloc_heap_new (w.alloc (.deferred (some []))) (.loop (rec .ready none)); rwa [World.size_alloc] at this
  have hK1 : W1.heap[w.heap.size]? = some (.deferred (some [])) := by
    rw [← hW1]; exact (Below.heap_alloc _ _ _ (by simp)).trans (World.alloc_heap_new w _)
  have hb1 : Below w.heap.size w W1 := by
    rw [← hW1]; exact ((Below.refl _ w).alloc (Nat.le_refl _) _).alloc (by simp) _
  have hI1 : I [] W1 := hI _ _ _ h0 hb1
  have hsz1 : W1.heap.size = w.heap.size + 2 := by rw [← hW1]; simp
  refine ⟨w.heap.size + 1, [{ target := .collected w.heap.size, args := #[] }], W1, { target := .fn (.func gf) lb, args := #[.func (.yield (w.heap.size + 1)) #[] #[]] }, W1, gf,
    #[.func (.yield (w.heap.size + 1)) #[] #[]] ++ lb, W1, ?_, ?_, ?_, ?_, fun _ => h1, ?_⟩
  · rw [← hW1, hrec]; exact run_enterLoop_outer _ _ _ _ _
  · simp only [resolve, hg]
    simp [go_sem]
  · intro f' hf'; simp [Target.leads] at hf'; subst hf'; exact hFg
  · simp [invoke, go_sem, eg]
  · refine (hseq (w.heap.size + 1)
      (fun pre W => I pre W ∧ W.heap[w.heap.size + 1]? = some (.loop (rec .ready none)) ∧ W.heap[w.heap.size]? = some (.deferred (some [])))
      (fun pre W => ∃ c, Ix c pre W ∧ W.heap[w.heap.size + 1]? = some (.loop (rec .done (some c))) ∧ W.heap[w.heap.size]? = some (.deferred (some [])))
      W1 hb1 (by omega) (by omega)
      (fun s A B hs hb => ⟨hI s A B hs.1 (hb.mono (by omega)), (hb.block _ (by omega)).trans hs.2.1, (hb.block _ (by omega)).trans hs.2.2⟩)
      ?_ ⟨hI1, hL1, hK1⟩).mono ?_
    · -- one round
      rintro pre x W ⟨hi, hl, hk⟩ hsz hpx
      have hlt : w.heap.size + 1 < W.heap.size := (Array.getElem?_eq_some_iff.1 hl).1
      have hy := run_yield (P := P) (args := encs x) hl (by rw [hrec]; exact hps x)
      rw [hrec] at hy
      refine ⟨fn, _, assign, body, hy, roundIn_of_wpIn hfn (hassign _ x W _ ⟨_, run_beginRound hl (by rw [hrec]), ?_⟩)⟩
      have hl2 : (W.putObj (w.heap.size + 1) (.loop { rec .ready none with state := .busy })).heap[w.heap.size + 1]? = some (.loop { rec .ready none with state := .busy }) := World.putObj_heap_same hlt
      have hk2 : (W.putObj (w.heap.size + 1) (.loop { rec .ready none with state := .busy })).heap[w.heap.size]? = some (.deferred (some [])) := (World.putObj_heap_other (by omega)).trans hk
      have hsz2 : (W.putObj (w.heap.size + 1) (.loop { rec .ready none with state := .busy })).heap.size = W.heap.size := by simp
      refine wpIn_mono (hbody _ pre x _ ⟨_, hl2⟩ (hI _ _ _ hi (below_put W _ _ (by omega) hlt)) (by rw [hsz2]; omega) hpx) ?_
      have fin : ∀ (jump : Option Code) (W3 : World), KeepsBut (fun k => k < w.heap.size) (W.putObj (w.heap.size + 1) (.loop { rec .ready none with state := .busy })) W3 →
          (Instr.endRound (w.heap.size + 1) jump).run P W3 = .ok (.bool jump.isNone) (W3.putObj (w.heap.size + 1) (.loop (rec (if jump.isNone then .ready else .done) jump))) ∧
          W3.heap[w.heap.size + 1]? = some (.loop { rec .ready none with state := .busy }) ∧
          (W3.putObj (w.heap.size + 1) (.loop (rec (if jump.isNone then .ready else .done) jump))).heap[w.heap.size + 1]? = some (.loop (rec (if jump.isNone then .ready else .done) jump)) ∧
          (W3.putObj (w.heap.size + 1) (.loop (rec (if jump.isNone then .ready else .done) jump))).heap[w.heap.size]? = some (.deferred (some [])) := fun jump W3 hk3 => by
        have hl3 := (hk3.2 _ (by rw [hsz2]; omega) (by omega)).trans hl2
        have := run_endRound (P := P) jump hl3
        rw [hrec] at this ⊢
        exact ⟨this, by rw [hrec] at hl3; exact hl3, World.putObj_heap_same (Array.getElem?_eq_some_iff.1 hl3).1, (World.putObj_heap_other (by omega)).trans ((hk3.2 _ (by rw [hsz2]; omega) (by omega)).trans hk2)⟩
      rintro e a3 W3 hp
      have close : ∀ {I' : World → Prop} (jump : Option Code), (∀ A B, I' A → Below w.heap.size A B → I' B) → I' W3 → W3.heap[w.heap.size + 1]? = some (.loop { rec .ready none with state := .busy }) → I' (W3.putObj (w.heap.size + 1) (.loop (rec (if jump.isNone then .ready else .done) jump))) :=
        fun jump hI' hi' hl' => hI' _ _ hi' (below_put W3 _ _ (by omega) (Array.getElem?_eq_some_iff.1 hl').1)
      cases e with
      | normal =>
        obtain ⟨hk3, hi3⟩ := hp
        obtain ⟨hr, hl3, hl4, hk4⟩ := fin none W3 (hk3.mono hT)
        exact ⟨_, _, hr, .inl ⟨rfl, ⟨close none (hI _) hi3 hl3, hl4, hk4⟩, ((KeepsBut.putObj W _ _ (Or.inr rfl)).trans (hk3.mono (fun k hk => Or.inl hk))).trans (KeepsBut.putObj W3 _ _ (Or.inr rfl))⟩⟩
      | ret =>
        obtain ⟨hk3, hi3⟩ := hp
        obtain ⟨hr, hl3, hl4, hk4⟩ := fin (some .ret) W3 hk3
        exact ⟨_, _, hr, .inr ⟨rfl, ⟨.ret, hIx _ _ _ _ _ hi3 hl3, hl4, hk4⟩, by have := hk3.1; simp at this ⊢; omega⟩⟩
      | exit id =>
        obtain ⟨hk3, hi3⟩ := hp
        obtain ⟨hr, hl3, hl4, hk4⟩ := fin (some (.exit id)) W3 hk3
        exact ⟨_, _, hr, .inr ⟨rfl, ⟨.exit id, hIx _ _ _ _ _ hi3 hl3, hl4, hk4⟩, by have := hk3.1; simp at this ⊢; omega⟩⟩
      | goto t =>
        obtain ⟨hk3, hi3⟩ := hp
        obtain ⟨hr, hl3, hl4, hk4⟩ := fin (some (.goto t)) W3 hk3
        exact ⟨_, _, hr, .inr ⟨rfl, ⟨.goto t, hIx _ _ _ _ _ hi3 hl3, hl4, hk4⟩, by have := hk3.1; simp at this ⊢; omega⟩⟩
      | panic ch => exact hp.elim
      | outgrown => exact hp.elim
    · -- behind the iterator
      rintro e W2 ⟨⟨v, rfl⟩, (⟨xs, hS, hi, hl, hk⟩ | ⟨pre, hSp, c, hi, hl, hk⟩)⟩
      · exact ⟨none, _, by have := run_endLoop (P := P) hl (by rw [hrec]; simp); rw [hrec] at this; exact this, hdone _ xs _ hS (hI _ _ _ hi (below_put W2 _ _ (by omega) (Array.getElem?_eq_some_iff.1 hl).1)) (Nat.le_refl _) ((World.putObj_heap_other (by omega)).trans hk)⟩
      · exact ⟨some c, _, by have := run_endLoop (P := P) hl (by rw [hrec]; simp); rw [hrec] at this; exact this, hstop _ c pre _ hSp (hIx _ _ _ _ _ hi hl) (Nat.le_refl _) ((World.putObj_heap_other (by omega)).trans hk)⟩

end Go.Proofs.YtnjkhiheapmlmaaDoor

/- The parts, one after another, for a loop whose body knows which part it has. -/
namespace Go.Proofs.YtnjkhiheapmlmaaDoor
open Go.RowKit Go.Shelf
attribute [local go_sem] Oper.semAt_some

set_option maxHeartbeats 4000000 in
set_option maxRecDepth 100000 in
theorem parts1_vis (T : Nat → Prop) (m pt bn n : Nat) (M : Nat → Nat) (w : World) (hM : ∀ i, M i < 65536) (hn : n ≤ 16) (hA : ∀ a b, nearM M a b = nearM M b a) (hin : PartIn w pt bn n M) (hT : ¬ T pt ∧ ¬ T bn ∧ ¬ T 0) :
    SeqVis Fence.wide m Tryd.prog 60 #[.pointer (some ⟨pt, 0, none⟩)] (encM (nearM M) n) T (fun pre x => x < n ∧ headN (nearM M) n x = x ∧ pre = headsTo (nearM M) n x) (fun xs => xs = headsTo (nearM M) n n) (fun _ => True) w := by
  intro l J Jx W hW hlw hlW hJ hY h0
  have hpt := block_lt_of_cell hin.t
  have hbn := block_lt_of_cell hin.net.1
  have htb := block_lt_of_cell (hin.tab 0 (by decide))
  have HKB : Hid (∀ A B, KeepsBut (fun k => T k ∨ k = l) A B → KeepsBut (fun k => k ≠ pt ∧ k ≠ bn ∧ k ≠ 0) A B) := fun A B h => h.mono (fun k hk => by
    dsimp only at hpt hbn htb
    rcases hk with hk | hk
    · exact ⟨fun e => hT.1 (e ▸ hk), fun e => hT.2.1 (e ▸ hk), fun e => hT.2.2 (e ▸ hk)⟩
    · exact ⟨by omega, by omega, by omega⟩)
  have hin1 := hin.keep hW
  have kt := hin1.t
  have kn := hin1.net.1
  have HIN := Lib.hid hin1
  have HJ : Hid (∀ s A B, J s A → Below W.heap.size A B → J s B) := fun s A B hs hb => hJ s A B hs hb
  have HY := Lib.hid hY
  have H0 := Lib.hid h0
  have HA := Lib.hid hA
  clear hin hW hJ hY h0 hin1 hA hpt hbn htb hT
  refine callsIn_of_wp Tryd.func60 rfl trivial ?_ rfl
  simp only [Tryd.ntmps60, List.size_toArray, List.length_cons, List.length_nil, Nat.reduceAdd, Nat.reduceSub, Array.replicate_succ, Array.replicate_zero, List.push_toArray, List.append_toArray, List.nil_append, List.cons_append]
  gi_wp2_with fail
  refine ⟨trivial, fun h => (by cases h), ?_⟩
  refine (callsIn_wide.2 (wholeMask_any n _ hn)).mono ?_
  rintro e w2 ⟨rfl, rfl⟩
  clear kt kn
  gi_wp2
  gi_loopw [3] (fun rv wr => ∃ i : Nat, i ≤ n ∧ rv = .int .u32 (restN (nearM M) n i : Int) ∧ PartIn wr pt bn n M ∧ J (headsTo (nearM M) n i) wr ∧ W.heap.size ≤ wr.heap.size) (fun rv _ => (intOf rv).toNat)
  case atStart => exact ⟨0, Nat.zero_le _, by rw [restN_zero hn], HIN.out, H0.out, Nat.le_refl _⟩
  case round =>
    obtain ⟨i, hi, rfl, hp, hj, hsz⟩ := hrel
    have hrl := restN_lt (nearM M) n i
    have HP := Lib.hid hp
    have HJR := Lib.hid hj
    clear hp hj HIN H0
    by_cases h0 : restN (nearM M) n i = 0
    · have HE : Hid (headsTo (nearM M) n i = headsTo (nearM M) n n) := (headsTo_same hi (fun v h1 h2 e => by
        have := (restN_bit (A := nearM M) hn i v).2 ⟨h2, by omega⟩
        rw [h0] at this; simp at this)).symm
      rw [h0]
      clear h0
      gi_wp2
      go_end0
      exact ⟨⟨_, rfl⟩, .inl ⟨_, HE.out, HJR.out⟩⟩
    · obtain ⟨q1, q2, q3, q4, q5⟩ := restN_least HA.out hn h0
      have hsp := leastM_spec h0 hrl
      have HRE : Hid (reachN (nearM M) (bitS (restN (nearM M) n i)) (leastM (restN (nearM M) n i)) = compN (nearM M) n (leastM (restN (nearM M) n i))) := reach_rest HA.out hn hsp.2.1
      have hb1 : ((restN (nearM M) n i : Int) != 0) = true := by rw [bne_iff_ne]; omega
      have hb2 : ((restN (nearM M) n i) != 0) = true := by rw [bne_iff_ne]; exact h0
      have kt := HP.out.t
      gi_wp2
      refine wpIn_wide.2 ?_
      go_region_held3 (fun wx => wx.cell? ⟨pt, 0, none⟩ = some (.pointer (some ⟨bn, 0, none⟩))) (first | exact kt | exact kta | exact ktb)
        (first
          | (go_at_call 28; refine (least_any _ _ hrl h0 (HP.out.keep (Below.refl _ _).drew).tab).mono ?_; rintro e wa ⟨rfl, hwa⟩; have HPA : Hid (PartIn wa pt bn n M) := (by rw [← hwa]; exact HP.out.keep (Below.refl _ _).drew); have HBA : Hid (Below wr.heap.size wr wa) := (by rw [← hwa]; exact (Below.refl _ _).drew); have kta := HPA.out.t; clear hwa)
          | (go_at_call 62; refine (reached_any _ _ _ _ _ _ HPA.out.net hM hrl hsp.1 hsp.2.1).mono ?_; rintro e wb ⟨rfl, hbb⟩; rw [HRE.out]; have HPB := Lib.hid (HPA.out.keep hbb); have HBB : Hid (Below wr.heap.size wr wb) := HBA.out.trans (hbb.mono HBA.out.size); have ktb := HPB.out.t; clear hbb))
      have HJB := Lib.hid (HJ.out _ _ _ HJR.out (HBB.out.mono hsz))
      have hszb : W.heap.size ≤ wb.heap.size := Nat.le_trans hsz HBB.out.size
      obtain ⟨q, HQ⟩ : ∃ q, Hid (q = leastM (restN (nearM M) n i)) := ⟨_, rfl⟩
      rw [← HQ.out] at q1 q2 q3 q4 q5 ⊢
      have HHS : Hid (headsTo (nearM M) n (q + 1) = headsTo (nearM M) n i ++ [q]) := by show _ = _; rw [headsTo_succ q3, headsTo_same q1 q4]
      have hlen := headsTo_len (nearM M) n i
      obtain ⟨fn, tmps, assign, body, hy, hR⟩ := HY.out _ q wb HJB.out hszb ⟨q2, q3, (headsTo_same q1 q4).symm⟩
      simp only [encM] at hy
      have HR7 := Lib.hid hR
      have hcl := compN_lt (nearM M) n q
      have hbits : bits BinOp.andNot IntKind.u32 (restN (nearM M) n i : Int) (compN (nearM M) n q : Int) = ((restN (nearM M) n (q + 1) : Nat) : Int) := by
        rw [← q5, ← restN_step HA.out hn q2 q3, u32_andNot_nat _ _ (by have := restN_lt (nearM M) n q; omega) (by omega)]; rfl
      have HLT : Hid (restN (nearM M) n (q + 1) < restN (nearM M) n i) := by
        show _ < _
        rw [← q5, ← restN_step HA.out hn q2 q3]
        refine Nat.lt_of_le_of_ne Nat.and_le_left (fun e => ?_)
        have h1 : (restN (nearM M) n q).testBit q = true := (restN_bit hn q q).2 ⟨q2, by omega⟩
        have h2 : (clrM (restN (nearM M) n q) (compN (nearM M) n q)).testBit q = false := by rw [clrM_bit (restN_lt _ _ _) (compN_lt _ _ _), compN_self hn q2]; simp
        rw [show clrM (restN (nearM M) n q) (compN (nearM M) n q) = restN (nearM M) n q from e, h1] at h2
        cases h2
      clear hR kt kta ktb HRE HPA HBA HJR HJB hsp hb1 hb2 h0
      gi_wp2
      refine ⟨fun h => (by cases h), HR7.out.mono ?_⟩
      rintro e W3 (⟨rfl, hJ3, hk3⟩ | ⟨rfl, hJx3, -⟩)
      · have HJ3 := Lib.hid hJ3
        have HP3 := Lib.hid (HPB.out.but (HKB.out _ _ hk3))
        have hsz3 : W.heap.size ≤ W3.heap.size := Nat.le_trans hszb hk3.1
        clear hJ3 hk3 hy
        gi_wp2
        go_roundw
        case rel => exact ⟨q + 1, by omega, rfl, HP3.out, by rw [HHS.out]; exact HJ3.out, hsz3⟩
        case measure => simp [intOf]; exact HLT.out
      · have HX3 := Lib.hid hJx3
        clear hJx3 hy
        gi_wp2
        refine bodyPost_ret (results_none rfl _ _ _) rfl ?_
        exact ⟨⟨_, rfl⟩, .inr ⟨_, trivial, HX3.out⟩⟩

end Go.Proofs.YtnjkhiheapmlmaaDoor
