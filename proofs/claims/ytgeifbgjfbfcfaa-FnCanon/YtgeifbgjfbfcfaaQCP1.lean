/- The texts CP1, CP2, joined. -/
import Derived.Test.YtgeifbgjfbfcfaaQCN5
import Derived.Test.YtgeifbgjfbfcfaaQM4
import Derived.Test.YtgeifbgjfbfcfaaQMark
import Derived.Test.YtgeifbgjfbfcfaaCN8
import Derived.Test.YtgeifbgjfbfcfaaQCN3
import Derived.Test.YtgeifbgjfbfcfaaQCO1
import Derived.Test.YtgeifbgjfbfcfaaQEM3
import Derived.Test.YtgeifbgjfbfcfaaQEN7
import Derived.Test.YtgeifbgjfbfcfaaRR1
import Derived.Test.YtgeifbgjfbfcfaaQEP1

/- Walks: Canonical of the model. -/
namespace Go.Proofs.Ytgeifbgjfbfcfaa
open Go.RowKit

/-- The canonical order; nothing where the graph is not small. -/
noncomputable def canR (L : List (List Int)) : List Int := if SmallP L then canL (adjB L) L.length else []
/-- The canonical graph. -/
noncomputable def canG (L : List (List Int)) : List (List Int) := pickL L (canR L) (decide (SmallP L))
theorem canR_len {L : List (List Int)} (h : SmallP L) : (canR L).length = L.length := by
  unfold canR
  rw [if_pos h]
  exact (canL_is _ _).1.2.1
theorem canR_in {L : List (List Int)} (h : SmallP L) : InP L (canR L) := by
  unfold canR
  rw [if_pos h]
  exact (canL_is _ _).1.1.1
theorem canR_le (L : List (List Int)) : (canR L).length ≤ 16 := by
  by_cases h : SmallP L
  · rw [canR_len h]; have := h.2; omega
  · unfold canR; rw [if_neg h]; simp
theorem canG_small (L : List (List Int)) : Small (canG L) := pickL_small (fun _ => canR_le L)
theorem canR_small (L : List (List Int)) : (canR L).length ≤ 1048576 := Nat.le_trans (canR_le L) (by omega)

/-- A graph and a row of one's own: the row's blocks lie below the graph's. -/
def GaveCan (w : World) (L : List (List Int)) (xs : List Int) (e : Ending) (w' : World) : Prop :=
  ∃ U n a c n1 a1 c1, e = .returned (.tuple #[.agg #[.slice a n c], .slice a1 n1 c1]) ∧ OwnGridU 2 29 w' U w'.heap.size (.slice a n c) L ∧ OwnRowU 2 w' w.heap.size U (.slice a1 n1 c1) xs ∧ w.heap.size ≤ U ∧ U ≤ w'.heap.size ∧ Below w.heap.size w w'

theorem OwnGrid.first {T T1 : TypeId} {w : World} {B : Nat} {v : Value} {L : List (List Int)} (h : OwnGrid T T1 w B v L) (h0 : 0 < L.length) : ∃ g cap a n c, v = .slice (some ⟨g, 0, none⟩) L.length cap ∧ w.cell? ⟨g, 0, none⟩ = some (.slice a n c) ∧ OwnRow T w B (.slice a n c) (nthR L 0) := by
  obtain ⟨R, h2, h3, h4, h5⟩ := h
  rcases h3 with ⟨_, e'⟩ | ⟨g, cap, cur, e, hg, hh, l1, l2, hs, hc⟩
  · rw [e'] at h0; simp at h0
  · obtain ⟨a, c, er⟩ := (h4 0 h0).row.slice
    refine ⟨g, cap, a, (nthR L 0).length, c, e, ?_, by rw [← er]; exact h4 0 h0⟩
    rw [cell_of_row w g 0 cur T1 _ hh, hc 0 h0, er]
theorem firstL_nth {Z : List (List Int)} (h : 0 < Z.length) : firstL Z = nthR Z 0 := by
  cases Z with
  | nil => simp at h
  | cons a t => rfl
/-- How the canonical graph and order are handed back. -/
theorem Two.can {w0 w1 w2 : World} {v : Value} (h : Two w0 v w2) {R : List (List Int)} {xs : List Int} {m c m1 c1 : Nat} {a a1 : Option Addr} (ho : OwnGrid 2 29 w2 w1.heap.size (.slice a m c) R) (hr : OwnRow 2 w1 (w0.heap.size + 1 + 1) (.slice a1 m1 c1) xs) (hb : Below w1.heap.size w1 w2) (hB : w0.heap.size + 1 < w1.heap.size) :
    GaveCan w0 R xs (.returned (.tuple #[.agg #[.slice a m c], .slice a1 m1 c1])) (w2.setCell ⟨w0.heap.size + 1, 0, none⟩ (.slice a m c)) := by
  refine ⟨w1.heap.size, m, a, c, m1, a1, c1, rfl, ?_, ⟨?_, fun k hk => (hr.lt k hk).2⟩, by omega, by rw [size_setCell1]; exact hb.size, h.bel.setCell (by simp) _⟩
  · have := (ho.setBelow (a := ⟨w0.heap.size + 1, 0, none⟩) (by show _ < _; exact hB) (.slice a m c)).under
    exact this
  · exact ((hr.keep hb).setBelow (a := ⟨w0.heap.size + 1, 0, none⟩) (by show _ < _; simp) _).mono (by omega)

set_option maxHeartbeats 1600000 in
set_option maxRecDepth 100000 in
theorem specCanonical_any (v : Value) (L : List (List Int)) (w : World) (h : GridAt w v L) : Calls Try.prog 18 #[.agg #[v]] w (GaveCan w (canG L) (canR L)) := by
  obtain ⟨a0, c0, rfl⟩ := h.slice
  have T0 := Lib.hid (Two.start w (.slice a0 L.length c0))
  have HGK : Hid (∀ w', Below w.heap.size w w' → GridAt w' (.slice a0 L.length c0) L) := fun w' hb => h.keep hb
  clear h
  go_enter Try.func18, Try.ntmps18
  go_wp2_with fail
  refine (l4Small_any _ _ _ (HGK.out _ T0.out.bel)).mono ?_
  rintro e w1 ⟨rfl, hb1⟩
  have T1 := Lib.hid (T0.out.keep hb1)
  have kb := T1.out.arg.1
  clear hb1 T0
  by_cases hS : SmallP L
  · rw [decide_eq_true hS]
    have HS := Lib.hid hS
    have hz := hS.1.1
    have h8 := hS.2
    have HCR : Hid (canR L = nthR (bestTo (adjB L) L.length L.length) 0) := by
      show _ = _
      unfold canR
      rw [if_pos hS]
      exact firstL_nth (List.length_pos_iff.2 (best_some (Nat.le_refl _)))
    have HBP : Hid (0 < (bestTo (adjB L) L.length L.length).length) := List.length_pos_iff.2 (best_some (Nat.le_refl _))
    clear hS
    go_wp2_with fail
    refine (l4Best_any L HS.out.1 h8 a0 c0 _ (HGK.out _ T1.out.bel)).mono ?_
    rintro e w2 ⟨n2, a2, c2, rfl, ho2, hb2⟩
    obtain ⟨g, cap, ar, nr, cr, e2, hc0, hr0⟩ := ho2.first HBP.out
    simp only [Value.slice.injEq] at e2
    obtain ⟨rfl, rfl, rfl⟩ := e2
    have hbp := HBP.out
    rw [← HCR.out] at hr0
    have hnr : nr = (canR L).length := by
      obtain ⟨a3, c3, e3⟩ := hr0.row.slice
      simp only [Value.slice.injEq] at e3
      exact e3.2.1
    have HR0 := Lib.hid hr0
    have T2 := Lib.hid (T1.out.keep hb2)
    have kb2 := T2.out.arg.1
    have HLN := Lib.hid hnr
    clear hb2 ho2 hr0 kb hnr
    go_wp2_with fail
    have hcl := canR_len HS.out
    refine (l2Of_any _ _ L (canR L) (pickA L (canR L)) _ (HGK.out _ T2.out.bel) HR0.out.row (by omega) (canR_le L) (canR_in HS.out) (pickA_spec HS.out.1 (canR_in HS.out)) (pickA_sym HS.out.1 _) (pickA_self HS.out.1 _) (fun i j => pickA_range)).mono ?_
    rintro e w3 ⟨n3, a3, c3, rfl, ho3, hb3⟩
    have T3 := Lib.hid (T2.out.keep hb3)
    have kr := T3.out.res.1
    have kf := T3.out.res.2
    have HO3 := Lib.hid ho3
    have HB3 := Lib.hid hb3
    clear ho3 hb3 kb2 hc0 hcl
    go_wp2
    refine bodyPost_ret (v := .tuple #[.agg #[.slice a3 n3 c3], .slice ar nr cr]) (by simp [results, Try.results18, go_sem, T3.out.q0]) rfl ?_
    refine T3.out.can (w1 := w2) ?_ (HR0.out.mono ?_) HB3.out T2.out.lt
    · rw [canG, pickL, if_pos (decide_eq_true HS.out)]
      exact HO3.out
    · have := T1.out.lt; omega
  · rw [decide_eq_false hS]
    have HS := Lib.hid hS
    have T2 := Lib.hid (T1.out.keep ((Below.refl w1.heap.size w1).alloc (Nat.le_refl _) (.cells #[] 2)))
    have kr := T2.out.res.1
    have kf := T2.out.res.2
    clear hS
    go_wp2
    refine bodyPost_ret (v := .tuple #[.agg #[.slice none 0 0], .slice (some ⟨w1.heap.size, 0, none⟩) 0 0]) (by simp [results, Try.results18, go_sem, T2.out.q0]) rfl ?_
    have e1 : canR L = [] := if_neg HS.out
    have e2 : canG L = [] := by unfold canG pickL; rw [decide_eq_false HS.out]; rfl
    rw [e1, e2]
    exact T2.out.can (w1 := w1.alloc (.cells #[] 2)) (own_nil _ _) (empty_own w1 _ T1.out.lt) (Below.refl _ _) T2.out.lt

end Go.Proofs.Ytgeifbgjfbfcfaa

/- Walks: Canonical of the program. -/
namespace Go.Proofs.Ytgeifbgjfbfcfaa
open Go.RowKit Go.Shelf
attribute [local go_sem] Oper.semAt_some

/-- A slice against nil. -/
theorem eqIn_nilP (d : Nat) (a : Option Addr) (n c : Nat) (w : World) : (Op.equalIn (d + 1) 29 (.slice a n c) (.slice none 0 0)).run Try.prog w = .ok a.isNone w := by
  cases a <;> simp [Op.equalIn, run_underlying Try.underlying29]
theorem equal_nilP (a : Option Addr) (n c : Nat) (w : World) : (Op.equal 29 (.slice a n c) (.slice none 0 0)).run Try.prog w = .ok a.isNone w := eqIn_nilP 9999 a n c w
theorem eql_noP (a : Addr) (n c : Nat) (w : World) : (binOp .eql 29 (.slice (some a) n c) (.slice none 0 0)).run Try.prog w = .ok (.bool false) w := by
  simp [binOp, equal_nilP]
theorem eql_yesP (w : World) : (binOp .eql 29 (.slice none 0 0) (.slice none 0 0)).run Try.prog w = .ok (.bool true) w := by
  simp [binOp, equal_nilP]

theorem BoxAt.but {T : Nat → Prop} {w w' : World} {b : Nat} {v : Value} (h : BoxAt w b v) (hk : KeepsBut T w w') (hT : ¬ T b) : BoxAt w' b v :=
  ⟨hk.cell hT h.1, by have := hk.2 b h.lt hT; rw [← h.2]; simp only [World.frozen?, this]⟩
theorem NetBlk.but {T : Nat → Prop} {U : TypeId} {w w' : World} {g n : Nat} {M : Nat → Nat} (h : NetBlk U w g n M) (hk : KeepsBut T w w') (hT : ¬ T g) : NetBlk U w' g n M := (hk.2 g h.lt hT).trans h
theorem OwnRow.but {T : Nat → Prop} {U : TypeId} {w w' : World} {B : Nat} {v : Value} {xs : List Int} (h : OwnRow U w B v xs) (hk : KeepsBut T w w') (hT : ∀ k, B ≤ k → ¬ T k) : OwnRow U w' B v xs := by
  obtain ⟨h1, h2, h3⟩ := h
  refine ⟨h1, h2, ?_⟩
  rcases h3 with h3 | ⟨g, cap, cur, e, hg, hh, r⟩
  · exact Or.inl h3
  · exact Or.inr ⟨g, cap, cur, e, hg, (hk.2 g (Array.getElem?_eq_some_iff.1 hh).1 (hT g hg)).trans hh, r⟩
theorem Two.keepB {w0 : World} {v : Value} {w w' : World} {B : Nat} (h : Two w0 v w) (hb : Below B w w') (hB : w0.heap.size + 1 < B) : Two w0 v w' :=
  ⟨h.arg.keepB hb (by omega), h.res.keepB hb hB, h.bel.trans (hb.mono (by omega))⟩

/-- The best order so far and its code, where they lie. -/
def KeptAt (A : Nat → Nat → Bool) (n bb bl s : Nat) (pre : List (List Int)) (W : World) : Prop :=
  (pre = [] ∧ BoxAt W bb (.slice none 0 0) ∧ BoxAt W bl (.slice none 0 0)) ∨
  (pre ≠ [] ∧ ∃ g c1 a2 n2 c2, BoxAt W bb (.slice (some ⟨g, 0, none⟩) n c1) ∧ BoxAt W bl (.slice a2 n2 c2) ∧ OwnRow 2 W s (.slice (some ⟨g, 0, none⟩) n c1) (keptL A pre) ∧ OwnRow 2 W s (.slice a2 n2 c2) (codeA A (keptL A pre)))
theorem KeptAt.but {A : Nat → Nat → Bool} {n bb bl s : Nat} {pre : List (List Int)} {T : Nat → Prop} {W W' : World} (h : KeptAt A n bb bl s pre W) (hk : KeepsBut T W W') (h1 : ¬ T bb) (h2 : ¬ T bl) (hT : ∀ k, s ≤ k → ¬ T k) : KeptAt A n bb bl s pre W' := by
  rcases h with ⟨h0, hb, hl⟩ | ⟨h0, g, c1, a2, n2, c2, hb, hl, ho, hc⟩
  · exact .inl ⟨h0, hb.but hk h1, hl.but hk h2⟩
  · exact .inr ⟨h0, g, c1, a2, n2, c2, hb.but hk h1, hl.but hk h2, ho.but hk hT, hc.but hk hT⟩
/-- So far. -/
def CanI (w : World) (v : Value) (bn n : Nat) (M : Nat → Nat) (bb bl s : Nat) (pre : List (List Int)) (W : World) : Prop :=
  Two w v W ∧ NetBlk 57 W bn n M ∧ KeptAt (hostM M) n bb bl s pre W

theorem fold_mem (A : Nat → Nat → Bool) : ∀ (ps : List (List Int)) (b : List Int), ps.foldl (betterL A) b = b ∨ ps.foldl (betterL A) b ∈ ps := by
  intro ps
  induction ps with
  | nil => intro b; exact .inl rfl
  | cons x t ih =>
    intro b
    rw [List.foldl_cons]
    have hx : betterL A b x = x ∨ betterL A b x = b := by unfold betterL; split; exact .inl rfl; exact .inr rfl
    rcases ih (betterL A b x) with h | h
    · rw [h]
      rcases hx with h' | h'
      · right; rw [h']; simp
      · left; exact h'
    · right; exact List.mem_cons_of_mem _ h
theorem kept_mem (A : Nat → Nat → Bool) {ps : List (List Int)} (h : ps ≠ []) : keptL A ps ∈ ps := by
  cases ps with
  | nil => exact absurd rfl h
  | cons x t =>
    unfold keptL
    rw [List.foldl_cons]
    have hx : betterL A [] x = x := by unfold betterL; exact if_pos (.inl rfl)
    rw [hx]
    rcases fold_mem A t x with h | h
    · rw [h]; simp
    · exact List.mem_cons_of_mem _ h
theorem kept_more {A : Nat → Nat → Bool} {pre : List (List Int)} {x : List Int} (h : pre = [] ∨ LexLt (codeA A x) (codeA A (keptL A pre))) : keptL A (pre ++ [x]) = x := by
  rw [kept_snoc]
  unfold betterL
  refine if_pos ?_
  rcases h with rfl | h
  · exact .inl rfl
  · exact .inr h
theorem kept_same {A : Nat → Nat → Bool} {pre : List (List Int)} {x : List Int} (h0 : keptL A pre ≠ []) (h : ¬ LexLt (codeA A x) (codeA A (keptL A pre))) : keptL A (pre ++ [x]) = keptL A pre := by
  rw [kept_snoc]
  unfold betterL
  exact if_neg (fun h' => h'.elim h0 h)
theorem tri_le {n : Nat} (h : n ≤ 16) : triN n ≤ 1048576 := by
  have : ∀ k, k ≤ 16 → triN k ≤ 16 * k := by
    intro k
    induction k with
    | zero => intro _; simp [triN]
    | succ k ih => intro hk; have := ih (by omega); simp only [triN]; omega
  have := this n h
  omega
theorem CanI.put {w w8 : World} {v vb vl : Value} {bn n : Nat} {M : Nat → Nat} {bb bl s g c a2n c2 : Nat} {a2 : Option Addr} {pre : List (List Int)} {x : List Int} (ht : Two w v w8) (hn : NetBlk 57 w8 bn n M) (hbb : BoxAt w8 bb vb) (hbl : BoxAt w8 bl vl)
    (ho : OwnRow 2 w8 s (.slice (some ⟨g, 0, none⟩) n c) x) (hc : OwnRow 2 w8 s (.slice a2 a2n c2) (codeA (hostM M) x)) (hk : keptL (hostM M) (pre ++ [x]) = x) (h1 : w.heap.size + 1 < bn) (h2 : bn < bb) (h3 : bb < bl) (h4 : bl < s) :
    CanI w v bn n M bb bl s (pre ++ [x]) ((w8.setCell ⟨bb, 0, none⟩ (.slice (some ⟨g, 0, none⟩) n c)).setCell ⟨bl, 0, none⟩ (.slice a2 a2n c2)) := by
  refine ⟨⟨?_, ?_, ?_⟩, ?_, .inr ⟨by simp, g, c, a2, a2n, c2, ?_, ?_, ?_, ?_⟩⟩
  · exact (ht.arg.setOther (by show bb ≠ _; omega) _).setOther (by show bl ≠ _; omega) _
  · exact (ht.res.setOther (by show bb ≠ _; omega) _).setOther (by show bl ≠ _; omega) _
  · exact (ht.bel.setCell (p := ⟨bb, 0, none⟩) (by show _ ≤ bb; omega) _).setCell (p := ⟨bl, 0, none⟩) (by show _ ≤ bl; omega) _
  · exact (hn.setOther (a := ⟨bb, 0, none⟩) (by show bn ≠ bb; omega) _).setOther (a := ⟨bl, 0, none⟩) (by show bn ≠ bl; omega) _
  · exact (hbb.set _).setOther (by show bl ≠ _; omega) _
  · exact (hbl.setOther (by show bb ≠ _; omega) _).set _
  · rw [hk]; exact (ho.setBelow (a := ⟨bb, 0, none⟩) (by show bb < _; omega) _).setBelow (a := ⟨bl, 0, none⟩) (by show bl < _; omega) _
  · rw [hk]; exact (hc.setBelow (a := ⟨bb, 0, none⟩) (by show bb < _; omega) _).setBelow (a := ⟨bl, 0, none⟩) (by show bl < _; omega) _
theorem touched_put (A : World) (D : Nat) (o : Obj) : Touched D (D + 1) A (A.putObj D o) := ⟨rfl, rfl, rfl, by simp, fun j _ h => World.putObj_heap_other (by omega)⟩
theorem can_end {w W w9 : World} {v : Value} {g n c D m9 c9 s : Nat} {a9 : Option Addr} {xs : List Int} {R : List (List Int)} (ht : Two w v W) (ho : OwnRow 2 W s (.slice (some ⟨g, 0, none⟩) n c) xs) (hD : W.heap[D]? = some (.deferred (some []))) (hb : Below W.heap.size W w9)
    (hg : OwnGrid 2 29 w9 W.heap.size (.slice a9 m9 c9) R) (h1 : w.heap.size + 1 < s) (h2 : w.heap.size + 1 < D) (hz : w.heap.size + 1 < W.heap.size) :
    GaveCan w R xs (.returned (.tuple #[.agg #[.slice a9 m9 c9], .slice (some ⟨g, 0, none⟩) n c])) ((w9.setCell ⟨w.heap.size + 1, 0, none⟩ (.slice a9 m9 c9)).putObj D (.deferred none)) := by
  have hDl : D < W.heap.size := (Array.getElem?_eq_some_iff.1 hD).1
  have hgD : g ≠ D := by
    rintro rfl
    rcases ho.2.2 with ⟨e, _⟩ | ⟨g', cap, cur, e, _, hh, _⟩
    · simp at e
    · simp only [Value.slice.injEq, Option.some.injEq, Addr.mk.injEq] at e
      rw [← e.1.1, hD] at hh
      simp at hh
  have hsz : ((w9.setCell ⟨w.heap.size + 1, 0, none⟩ (.slice a9 m9 c9)).putObj D (.deferred none)).heap.size = w9.heap.size := by simp [World.setCell]
  have ho9 : OwnRow 2 (w9.setCell ⟨w.heap.size + 1, 0, none⟩ (.slice a9 m9 c9)) s (.slice (some ⟨g, 0, none⟩) n c) xs := (ho.keep hb).setBelow (by show _ < _; exact h1) _
  refine ⟨W.heap.size, m9, a9, c9, n, some ⟨g, 0, none⟩, c, rfl, ?_, ⟨(ho9.blkB (World.putObj_heap_other hgD)).mono (by omega), fun k hk => (ho.lt k hk).2⟩, by omega, by rw [hsz]; exact hb.size, ?_⟩
  · exact ((hg.setBelow (a := ⟨w.heap.size + 1, 0, none⟩) (by show _ < _; exact hz) _).touched (touched_put _ D _) hDl).under
  · exact ((ht.bel.trans (hb.mono (by omega))).setCell (p := ⟨w.heap.size + 1, 0, none⟩) (by show _ ≤ w.heap.size + 1; omega) _).trans (below_put _ D _ (by omega) (by rw [size_setCell1]; have := hb.size; omega))

set_option maxHeartbeats 4000000 in
set_option maxRecDepth 100000 in
theorem implCanonical_any (v : Value) (L : List (List Int)) (w : World) (h : GridAt w v L) : Calls Try.prog 9 #[.agg #[v]] w (GaveCan w (canG L) (canR L)) := by
  obtain ⟨a0, c0, rfl⟩ := h.slice
  have hmf : ∀ (fn : Fn) (first cap : Array Value) (w : World), (Instr.makeFunc fn first cap).run Try.prog w = .ok (.func fn first cap) w := fun _ _ _ _ => rfl
  have T0 := Lib.hid (Two.start w (.slice a0 L.length c0))
  have HG : Hid (∀ w', Below w.heap.size w w' → GridAt w' (.slice a0 L.length c0) L) := fun w' hb => h.keep hb
  clear h
  refine calls_marks Try.func9 rfl ?_
  simp only [Try.ntmps9, List.size_toArray, List.length_cons, List.length_nil, Nat.reduceAdd, Nat.reduceSub, Array.replicate_succ, Array.replicate_zero, List.push_toArray, List.append_toArray, List.nil_append, List.cons_append]
  go_wp2_with fail
  refine (smallNet_any _ _ _ (HG.out _ T0.out.bel)).mono ?_
  rintro e w1 ⟨rfl, hb1⟩
  have T1 := Lib.hid (T0.out.keep hb1)
  have hnb := netBlk_new w1 0 (fun _ => 0)
  clear hb1 T0
  by_cases hS : SmallP L
  · rw [decide_eq_true hS, smArr_yes hS]
    have HS := Lib.hid hS
    have hzz := hS.1.1
    have HLT : Hid (∀ i, rowM L i < 65536) := fun i => rowM_lt (by omega) (fun v hv => (hS.1.2.1 v hv).1) i
    clear hS
    go_wp2_with (refine wpList_store_net rfl 57 (.tmp 4) (.tmp 13) rfl w1.heap.size L.length (rowM L) rfl rfl Try.sizeNet 0 (fun _ => 0) hnb ?_; intro w3 hp3; have HN3 := Lib.hid hp3.net; have T3 := Lib.hid (T1.out.put hp3); have hz3 : w1.heap.size < w3.heap.size := hp3.net.lt; have kn3 := cell_keep (((Below.refl _ _).alloc (Nat.le_refl _) (.cells #[.slice none 0 0] 29)).alloc (by simp) (.cells #[.slice none 0 0] 29)) hp3.net.at.1; clear hp3)
    have HZ1 : Hid (w.heap.size + 1 < w1.heap.size) := T1.out.lt
    obtain ⟨W4, hW4⟩ : ∃ W4, (w3.alloc (.cells #[.slice none 0 0] 29)).alloc (.cells #[.slice none 0 0] 29) = W4 := ⟨_, rfl⟩
    have hb4 : Below w3.heap.size w3 W4 := by rw [← hW4]; exact ((Below.refl _ _).alloc (Nat.le_refl _) _).alloc (by simp) _
    have hs4 : W4.heap.size = w3.heap.size + 2 := by rw [← hW4]; simp
    have HBB4 : Hid (BoxAt W4 w3.heap.size (.slice none 0 0)) := by rw [← hW4]; exact (BoxAt.new w3 _ _).keep ((Below.refl _ _).alloc (Nat.le_refl _) _)
    have HBL4 : Hid (BoxAt W4 (w3.heap.size + 1) (.slice none 0 0)) := by rw [← hW4]; have := BoxAt.new (w3.alloc (.cells #[.slice none 0 0] 29)) (.slice none 0 0) 29; rw [size_alloc1] at this; exact this
    rw [hW4] at kn3 ⊢
    have HS4 := Lib.hid hs4
    have HB34 := Lib.hid hb4
    have T4 := Lib.hid (T3.out.keep hb4)
    have HN4 := Lib.hid (HN3.out.keep hb4)
    have KN : Hid (∀ W', Below W4.heap.size W4 W' → W'.cell? ⟨w1.heap.size, 0, none⟩ = some (.int .i64 (L.length : Int))) := fun W' hb => cell_keep hb kn3
    clear hb4 hs4 hW4 hnb HN3 T3 T1
    go_region_held3 (fun wx => wx.cell? ⟨w1.heap.size, 0, none⟩ = some (.int .i64 (L.length : Int))) (first | exact kn3 | with_reducible exact KN.out _ (Below.refl _ _).drew | exact kb | exact kc)
      (first
        | (go_at_call 36; refine (twinsInTurn_any w1.heap.size L.length (rowM L) _ _ _ _ (HN4.out.at.keep (Below.refl _ _).drew) hzz.2 HLT.out).mono ?_; rintro e wb ⟨pw, rfl, hpw, k1, k2, htb, hbb⟩; have HBB : Hid (Below W4.heap.size W4 wb) := (Below.refl _ _).drew.trans hbb; have K1 := Lib.hid k1; have K2 := Lib.hid k2; have HTB := Lib.hid htb; have HPW := Lib.hid hpw; have kb := KN.out _ HBB.out; clear hbb k1 k2 htb hpw)
        | (go_at_call 35; refine (lists_any L.length _ _ _ _).mono ?_; rintro e wc ⟨rfl, hwc⟩; have HWC := Lib.hid hwc; have HBC : Hid (Below wb.heap.size wb wc) := (by rw [hwc]; exact ((Below.refl _ _).alloc (Nat.le_refl _) _).alloc (by simp) _); have kc := cell_keep HBC.out kb; clear hwc))
    have hz4 := HS4.out
    have hzb : W4.heap.size ≤ wb.heap.size := HBB.out.size
    have hzc : wb.heap.size + 1 < wc.heap.size := by rw [HWC.out]; simp
    have kps : wc.cell? ⟨wb.heap.size, 0, none⟩ = some (.int .i64 (L.length : Int)) := by rw [HWC.out]; go_simp
    have kpn : wc.cell? ⟨wb.heap.size + 1, 0, none⟩ = some (.func (.func 76) #[] #[.pointer (some ⟨W4.heap.size + 1, 0, none⟩), .pointer (some ⟨W4.heap.size, 0, none⟩), .pointer (some ⟨pw, 0, none⟩)]) := by rw [HWC.out]; go_simp
    have HB4C : Hid (Below W4.heap.size W4 wc) := HBB.out.trans (HBC.out.mono hzb)
    have hpw := HPW.out
    have hpw4 : W4.heap.size ≤ pw := hpw
    have hch := twins1_bound (fun k => k = w3.heap.size ∨ k = w3.heap.size + 1) wc (W4.heap.size + 1) W4.heap.size pw w1.heap.size L.length L.length (rowM L) (twN (rowM L) L.length) (litN (rowM L) L.length) rfl (fun xs => litTo_lt (un_lt hzz.2 xs) _) hzz.2 HLT.out (twN_lt _ _)
      (cell_keep HBC.out K2.out) (cell_keep HBC.out K1.out) (HN4.out.at.keep HB4C.out) (HTB.out.keep HBC.out) (by omega) (by omega) (by omega) (by omega)
    have HSQ := Lib.hid (lists1_seqN 8 (fun k => k = w3.heap.size ∨ k = w3.heap.size + 1) wc wb.heap.size (wb.heap.size + 1) L.length 76 _ _ (enters_of Try.func76 (by kernel_rfl) rfl) hch (fun xs => turnN_lt _ _ _ _) hzz.2 (fun k h => by omega) kps kpn (by omega) (by omega))
    have HZE : Hid (keptL (hostM (rowM L)) (seekL (rowM L) L.length) = canR L) := by
      show _ = _
      unfold canR
      rw [if_pos HS.out, seek_can HLT.out (by omega) hzz.2 (fun a b => by rw [host_row]; exact adjB_sym HS.out.1 a b), host_row]
    have HZM : Hid (∀ z ∈ seekL (rowM L) L.length, z.length = L.length ∧ ∀ i, i < L.length → 0 ≤ nth z i ∧ nth z i < 16) := fun z hz => by
      have := seek_dist HLT.out hzz.2 hz
      refine ⟨this.2, fun i hi => ?_⟩
      have := this.1.1 i (by omega)
      omega
    have hsq : SeqRowN Fence.wide 8 Try.prog 73 #[.pointer (some ⟨wb.heap.size, 0, none⟩), .pointer (some ⟨wb.heap.size + 1, 0, none⟩)] (fun k => k = w3.heap.size ∨ k = w3.heap.size + 1) L.length (seekL (rowM L) L.length) wc := HSQ.out
    obtain ⟨Z, hZ⟩ : ∃ Z, seekL (rowM L) L.length = Z := ⟨_, rfl⟩
    rw [hZ] at hsq HZE HZM
    have HSQ2 := Lib.hid hsq
    have HZ0 : Hid (∀ pre, pre <+: Z → pre ≠ [] → keptL (hostM (rowM L)) pre ≠ [] ∧ (keptL (hostM (rowM L)) pre).length = L.length) := fun pre hp hne => by
      have h1 := kept_mem (hostM (rowM L)) hne
      have h2 := (HZM.out _ (hp.subset h1)).1
      exact ⟨fun e => by rw [e] at h2; simp at h2; omega, h2⟩
    have HI0 : Hid (CanI w (.slice a0 L.length c0) w1.heap.size L.length (rowM L) w3.heap.size (w3.heap.size + 1) (wc.heap.size + 5) [] wc) := ⟨T4.out.keep HB4C.out, HN4.out.keep HB4C.out, .inl ⟨rfl, HBB4.out.keep HB4C.out, HBL4.out.keep HB4C.out⟩⟩
    have hz1 : w.heap.size + 1 < w1.heap.size := HZ1.out
    clear hch hsq HSQ kps kpn K1 K2 HTB HPW HBC HWC kb kc kn3 KN HBB HB34 hZ HN4 T4 HBB4 HBL4 HB4C hmf
    go_wp2_with fail
    refine (wpIn_wide (n := 9)).1 ?_
    refine wpIn_rangeFunc_rowN rfl (by omega) (gf := 73) (lb := #[.pointer (some ⟨wb.heap.size, 0, none⟩), .pointer (some ⟨wb.heap.size + 1, 0, none⟩)]) rfl trivial (enters_of Try.func73 (by kernel_rfl) rfl)
      HSQ2.out (fun k h => by omega) rfl
      (fun pre W => CanI w (.slice a0 L.length c0) w1.heap.size L.length (rowM L) w3.heap.size (w3.heap.size + 1) (wc.heap.size + 5) pre W)
      (fun _ _ _ => False)
      (fun s A B hs hk hb => ⟨hs.1.keepB hb (by omega), hs.2.1.but hk (by omega), hs.2.2.but hk (by omega) (by omega) (fun k h => by omega)⟩)
      (fun _ _ _ _ _ h _ => h)
      HI0.out
      ?a1 ?assign ?body ?done ?stop
    case assign =>
      intro l b W K hK
      gi_wp2
      exact hK
    case stop =>
      intro D c pre W _ _ h _ _
      exact h.elim
    case body =>
      intro l pre x b W hI hsz hbl hpx hrow
      subst hbl
      obtain ⟨ht, hn, hkp⟩ := hI
      have hxm := HZM.out x (hpx.subset (by simp))
      have hx1 := hxm.1
      have HX1 := Lib.hid hx1
      have hx0 : 0 < x.length := by omega
      have hx16 : x.length ≤ 16 := by omega
      have hlw : wc.heap.size + 4 < W.heap.size := by
        obtain ⟨b', o, c', e, _, _, hc⟩ := hrow.pos hx0
        simp only [Value.slice.injEq, Option.some.injEq, Addr.mk.injEq] at e
        have := block_lt_of_cell (hc 0 hx0)
        simp only at this
        omega
      have HCD : Hid (Calls Try.prog 38 #[.pointer (some ⟨w1.heap.size, 0, none⟩), .slice (some ⟨wc.heap.size + 4, 0, none⟩) L.length L.length] W (GaveRow W (codeA (hostM (rowM L)) x))) :=
        code_any w1.heap.size L.length (rowM L) _ x W hn.at HLT.out hrow hx0 hx16 (fun i hi => hxm.2 i (by omega))
      have HPX := Lib.hid hpx
      have HRW := Lib.hid hrow
      have HT := Lib.hid ht
      have HN := Lib.hid hn
      have HKP := Lib.hid hkp
      clear ht hn hkp hpx hrow hxm hx1
      gi_wp2_with fail
      refine ⟨trivial, ?_⟩
      refine (CallsIn.inRound l (callsIn_wide.2 HCD.out)).mono ?_
      rintro e w7 ⟨n7, a7, c7, rfl, ho7, hb7⟩
      have T7 := Lib.hid (HT.out.keep hb7)
      have HN7 := Lib.hid (HN.out.keep hb7)
      have hkp7 := HKP.out.but (KeepsBut.below (T := fun _ => False) hb7) id id (fun _ _ => id)
      have HK7 : Hid (KeepsBut (fun k => k = w3.heap.size ∨ k = w3.heap.size + 1) W w7) := KeepsBut.below hb7
      have HO7 : Hid (OwnRow 2 w7 (wc.heap.size + 5) (.slice a7 n7 c7) (codeA (hostM (rowM L)) x)) := ho7.mono (by omega)
      have HRW7 := Lib.hid (HRW.out.keep hb7)
      have HCL := Lib.hid (clone_any (wc.heap.size + 4) L.length L.length x w7 HRW7.out hx0 hx16)
      have hz7 : W.heap.size ≤ w7.heap.size := hb7.size
      clear ho7 hb7 HCD HT HN HKP
      rcases hkp7 with ⟨h0, hbb, hbl⟩ | ⟨h0, g, c1, a2, n2, c2, hbb, hbl, hob, hoc⟩
      case' inl =>
        have HKM : Hid (keptL (hostM (rowM L)) (pre ++ [x]) = x) := kept_more (.inl h0)
        have kc := hbb.1
        have heq := eql_yesP
        have HBB := Lib.hid hbb
        have HBL := Lib.hid hbl
        clear hbb hbl h0
        gi_wp2_with fail
        refine ⟨trivial, ?_⟩
        gi_wp2_with fail
      case' inr =>
        have heq := eql_noP
        have kc := hbb.1
        have kl := hbl.1
        obtain ⟨hk0, hkl⟩ := HZ0.out pre ((List.prefix_append pre [x]).trans HPX.out) h0
        have HCP := Lib.hid (compare_any (.slice a7 n7 c7) (.slice a2 n2 c2) _ _ w7 HO7.out.row hoc.row (by rw [codeA_len, codeA_len, hkl, HX1.out]) (by rw [codeA_len]; exact tri_le hx16))
        have HBB := Lib.hid hbb
        have HBL := Lib.hid hbl
        have HOB := Lib.hid hob
        have HOC := Lib.hid hoc
        have HK0 := Lib.hid hk0
        have H0 := Lib.hid h0
        clear hbb hbl hob hoc hk0 hkl h0
        gi_wp2_with fail
        refine ⟨trivial, ?_⟩
        refine (CallsIn.inRound l (callsIn_wide.2 HCP.out)).mono ?_
        rintro e w7' ⟨r, rfl, hr1, hr2, hr3, rfl⟩
        by_cases hr0 : r < 0
        case neg =>
          have HKS : Hid (keptL (hostM (rowM L)) (pre ++ [x]) = keptL (hostM (rowM L)) pre) := kept_same HK0.out (fun h => hr0 (hr3.2 h))
          have HF : Hid (KeepsBut (fun k => k = w3.heap.size ∨ k = w3.heap.size + 1) W w7 ∧ CanI w (.slice a0 L.length c0) w1.heap.size L.length (rowM L) w3.heap.size (w3.heap.size + 1) (wc.heap.size + 5) (pre ++ [x]) w7) :=
            ⟨HK7.out, T7.out, HN7.out, .inr ⟨by simp, g, c1, a2, n2, c2, HBB.out, HBL.out, by rw [HKS.out]; exact HOB.out, by rw [HKS.out]; exact HOC.out⟩⟩
          have q3 : decide (r < 0) = false := decide_eq_false hr0
          clear hr3 hr1 hr2
          gi_wp2
          exact HF.out
        have HKM : Hid (keptL (hostM (rowM L)) (pre ++ [x]) = x) := kept_more (.inr (hr3.1 hr0))
        have q3 : decide (r < 0) = true := decide_eq_true hr0
        clear hr3 hr1 hr2 kl
        gi_wp2_with fail
      all_goals (
        refine ⟨trivial, ?_⟩
        refine (CallsIn.inRound l (callsIn_wide.2 HCL.out)).mono ?_
        rintro e w8 ⟨n8, a8, c8, rfl, ho8, hb8⟩
        obtain ⟨g8, cap8, e8, hg8, hl8, hq8, hr8⟩ := ho8.posB hx0
        rw [HX1.out] at e8
        simp only [Value.slice.injEq] at e8
        obtain ⟨rfl, rfl, rfl⟩ := e8
        have HBB8 := Lib.hid (HBB.out.keep hb8)
        have HBL8 := Lib.hid (HBL.out.keep hb8)
        have HF := Lib.hid (CanI.put (pre := pre) (T7.out.keep hb8) (HN7.out.keep hb8) HBB8.out HBL8.out (ho8.mono (by omega)) (HO7.out.keep hb8) HKM.out (s := wc.heap.size + 5) (by omega) (by omega) (by omega) (by omega))
        have HKF := Lib.hid ((HK7.out.trans (KeepsBut.below hb8)).trans ((KeepsBut.setCell (T := fun k => k = w3.heap.size ∨ k = w3.heap.size + 1) w8 ⟨w3.heap.size, 0, none⟩ (.slice (some ⟨g8, 0, none⟩) L.length c8) (.inl rfl)).trans (KeepsBut.setCell _ ⟨w3.heap.size + 1, 0, none⟩ (.slice a7 n7 c7) (.inr rfl))))
        have kb8 := HBB8.out.1
        have kf8 := HBB8.out.2
        have kl8 := HBL8.out.1
        have kg8 := HBL8.out.2
        clear ho8 hb8 kc
        gi_wp2
        exact ⟨HKF.out, HF.out⟩)
    case done =>
      intro D W hI hD hK
      obtain ⟨ht, hn, hkp⟩ := hI
      have hcl := canR_len HS.out
      have hkp2 : ∃ g c1, BoxAt W w3.heap.size (.slice (some ⟨g, 0, none⟩) L.length c1) ∧ OwnRow 2 W (wc.heap.size + 5) (.slice (some ⟨g, 0, none⟩) L.length c1) (canR L) := by
        rcases hkp with ⟨h0, _, _⟩ | ⟨h0, g, c1, a2, n2, c2, hbb, hbl, hob, hoc⟩
        · exfalso
          have := HZE.out
          rw [h0] at this
          rw [← this] at hcl
          simp [keptL] at hcl
          omega
        · exact ⟨g, c1, hbb, by rw [← HZE.out]; exact hob⟩
      obtain ⟨g, c1, hbb, hob⟩ := hkp2
      have kb := hbb.1
      have KB : Hid (∀ W', Below W.heap.size W W' → W'.cell? ⟨w3.heap.size, 0, none⟩ = some (.slice (some ⟨g, 0, none⟩) L.length c1)) := fun W' hb => cell_keep hb kb
      have HPK : Hid (∀ W', Below W.heap.size W W' → Calls Try.prog 41 #[.pointer (some ⟨w1.heap.size, 0, none⟩), .slice (some ⟨g, 0, none⟩) L.length c1] W' (GaveGraph W' (canG L))) := fun W' hb => by
        have := picked_any w1.heap.size L.length (rowM L) (.slice (some ⟨g, 0, none⟩) L.length c1) (canR L) (pickA L (canR L)) W' (hn.keep hb) HLT.out (hob.row.keep hb) (by omega) (canR_le L) (fun i hi => by have := canR_in HS.out i hi; omega) (pickA_impl HS.out.1 (canR_in HS.out)) (pickA_sym HS.out.1 _) (pickA_self HS.out.1 _) (fun i j => pickA_range)
        rw [canG, pickL, if_pos (decide_eq_true HS.out)]
        exact this
      have hDW : D < W.heap.size := (Array.getElem?_eq_some_iff.1 hK).1
      have HK := Lib.hid hK
      have HOB := Lib.hid hob
      have HT := Lib.hid ht
      have kr := ht.res.1
      have kf := ht.res.2
      have HRS := Lib.hid ht.res
      clear hkp hn hbb hob ht hK hcl
      go_wp2_with fail
      go_region_held3 (fun wx => wx.cell? ⟨w3.heap.size, 0, none⟩ = some (.slice (some ⟨g, 0, none⟩) L.length c1)) (first | exact kb | with_reducible exact KB.out _ (Below.refl _ _).drew | exact kb9 | exact kbA)
        (first
          | (go_at_call 41; refine (HPK.out _ (Below.refl _ _).drew).mono ?_; rintro e w9 ⟨n9, a9, c9, rfl, ho9, hb9⟩; have HB9 : Hid (Below W.heap.size W w9) := (Below.refl _ _).drew.trans hb9; have HO9 : Hid (OwnGrid 2 29 w9 W.heap.size (.slice a9 n9 c9) (canG L)) := ho9; have kb9 := KB.out _ HB9.out; have hrs9 := HRS.out.keep HB9.out; have kr9 := hrs9.1; have kf9 := hrs9.2; have kbA : (w9.setCell ⟨w.heap.size + 1, 0, none⟩ (.slice a9 n9 c9)).cell? ⟨w3.heap.size, 0, none⟩ = some (.slice (some ⟨g, 0, none⟩) L.length c1) := (by rw [cell_set_other _ (fun e => by have := congrArg Addr.block e; simp only at this; omega)]; exact kb9); clear ho9 hb9 hrs9))
      all_goals (
        obtain ⟨W2, hW2⟩ : ∃ W2, w9.setCell ⟨w.heap.size + 1, 0, none⟩ (.slice a9 n9 c9) = W2 := ⟨_, rfl⟩
        have HF := Lib.hid (can_end HT.out HOB.out HK.out HB9.out HO9.out (by omega) (by omega) (by omega))
        have hKs : W2.heap[D]? = some (.deferred (some [])) := by
          rw [← hW2, heap_setCell_other _ _ _ _ (by show D ≠ w.heap.size + 1; omega), HB9.out.block D hDW]; exact HK.out
        have HC1 : Hid ((W2.putObj D (.deferred none)).cell? ⟨w.heap.size + 1, 0, none⟩ = some (.slice a9 n9 c9)) := by
          show _ = _
          rw [World.cell?_of_block (w := W2) (World.putObj_heap_other (by show w.heap.size + 1 ≠ D; omega)), ← hW2]
          exact cell_set_same _ kr9
        rw [hW2] at HF
        have HKS := Lib.hid hKs
        have HW2 := Lib.hid hW2
        clear hKs hW2 kb kr kf
        go_wp2
        rw [HW2.out]
        refine ⟨by simp, .inl ⟨_, _, rfl, run_takeDeferred HKS.out, ?_⟩⟩
        refine ⟨.tuple #[.agg #[.slice a9 n9 c9], .slice (some ⟨g, 0, none⟩) L.length c1], by simp [results, Try.results9, go_sem, HC1.out], ?_⟩
        exact HF.out)
  · rw [decide_eq_false hS, smArr_no hS]
    have HS := Lib.hid hS
    clear hS hmf
    go_wp2_with (refine wpList_store_net rfl 57 (.tmp 4) (.tmp 13) rfl w1.heap.size 0 (fun _ => 0) rfl rfl Try.sizeNet 0 (fun _ => 0) hnb ?_; intro w3 hp3; have T3 := Lib.hid (T1.out.put hp3); have kr3 := T3.out.res.1; have kf3 := T3.out.res.2; clear hp3)
    refine ⟨.tuple #[.agg #[.slice none 0 0], .slice none 0 0], by simp [results, Try.results9, go_sem, T3.out.q0], ?_⟩
    have e1 : canR L = [] := if_neg HS.out
    have e2 : canG L = [] := by unfold canG pickL; rw [decide_eq_false HS.out]; rfl
    rw [e1, e2]
    exact T3.out.can (w1 := w3) (own_nil _ _) nil_own (Below.refl _ _) T3.out.lt

end Go.Proofs.Ytgeifbgjfbfcfaa
