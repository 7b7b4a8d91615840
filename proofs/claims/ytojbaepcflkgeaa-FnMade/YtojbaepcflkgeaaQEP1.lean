/- The texts EP1, EP2, joined. -/
import Derived.Test.YtojbaepcflkgeaaQEM3
import Derived.Test.YtojbaepcflkgeaaQLater
import Derived.BigQuiet

/- Walks: EmbedsIn and FreeOf of the program, FreeOf of the model. -/
namespace Go.Proofs.Ytojbaepcflkgeaa
open Go.RowKit

/-- Two boxes for two graphs. -/
structure TwoG (w : World) (v v1 : Value) (Lp Lg : List (List Int)) (wr : World) : Prop where
  box0 : wr.cell? ⟨w.heap.size, 0, none⟩ = some v
  box1 : wr.cell? ⟨w.heap.size + 1, 0, none⟩ = some v1
  g0 : GridAt wr v Lp
  g1 : GridAt wr v1 Lg
  bel : Below w.heap.size w wr
  lt : w.heap.size + 2 ≤ wr.heap.size
theorem TwoG.start {w : World} {v v1 : Value} {Lp Lg : List (List Int)} (h : GridAt w v Lp) (h1 : GridAt w v1 Lg) (T : TypeId) : TwoG w v v1 Lp Lg ((w.alloc (.cells #[v] T)).alloc (.cells #[v1] T)) := by
  have ha : Below w.heap.size w ((w.alloc (.cells #[v] T)).alloc (.cells #[v1] T)) := ((Below.refl _ _).alloc (Nat.le_refl _) _).alloc (by simp) _
  exact ⟨by go_simp, by go_simp, h.keep ha, h1.keep ha, ha, by simp⟩
theorem TwoG.keep {w : World} {v v1 : Value} {Lp Lg : List (List Int)} {wr w' : World} (h : TwoG w v v1 Lp Lg wr) (hb : Below wr.heap.size wr w') : TwoG w v v1 Lp Lg w' :=
  ⟨cell_keep hb h.box0, cell_keep hb h.box1, h.g0.keep hb, h.g1.keep hb, h.bel.trans (hb.mono h.bel.size), Nat.le_trans h.lt hb.size⟩

theorem emb_first {Lp Lg : List (List Int)} (hp : SmallP Lp) (hg : GraphP Lg) : firstL (turnsL (rowM Lp) Lp.length Lg.length (rowM Lg)) = embL Lp Lg ∧ decide (turnsL (rowM Lp) Lp.length Lg.length (rowM Lg) ≠ []) = embB Lp Lg := by
  obtain ⟨h1, h2⟩ := fit_first hp.1 hg
  refine ⟨?_, ?_⟩
  · unfold embL; rw [if_pos ⟨hp, hg⟩]; exact h1
  · unfold embB
    rw [Bool.eq_iff_iff, decide_eq_true_iff, decide_eq_true_iff]
    exact ⟨fun h => ⟨hp, hg, fun e => h (h2.2 e)⟩, fun h e => h.2.2 (h2.1 e)⟩
theorem nil_own {w : World} {B : Nat} : OwnRow 2 w B (.slice none 0 0) [] := ⟨by simp, Nat.zero_le _, .inl ⟨rfl, rfl⟩⟩
theorem GaveFB.no {w w' : World} {xs : List Int} {ok : Bool} (hx : xs = []) (hk : ok = false) (hb : Below w.heap.size w w') : GaveFB w xs ok (.returned (.tuple #[.slice none 0 0, .bool false])) w' := by
  rw [hx, hk]; exact ⟨_, _, _, rfl, nil_own, hb⟩

end Go.Proofs.Ytojbaepcflkgeaa

/- Walks: AlikeIn. -/
namespace Go.Proofs.Ytojbaepcflkgeaa
open Go.RowKit

theorem al_first {La Lb : List (List Int)} (ha : SmallP La) (hb : SmallP Lb) (hl : La.length = Lb.length) : firstL (turnsL (rowM Lb) Lb.length La.length (rowM La)) = alL La Lb ∧ decide (turnsL (rowM Lb) Lb.length La.length (rowM La) ≠ []) = alB La Lb := by
  obtain ⟨h1, h2⟩ := fit_first hb.1 ha.1
  refine ⟨?_, ?_⟩
  · unfold alL; rw [if_pos ⟨ha, hb, hl⟩]; exact h1
  · unfold alB
    rw [Bool.eq_iff_iff, decide_eq_true_iff, decide_eq_true_iff]
    exact ⟨fun h => ⟨ha, hb, hl, fun e => h (h2.2 e)⟩, fun h e => h.2.2.2 (h2.1 e)⟩
theorem al_no {La Lb : List (List Int)} (h : ¬ (SmallP La ∧ SmallP Lb ∧ La.length = Lb.length)) : alL La Lb = [] ∧ alB La Lb = false := by
  refine ⟨?_, ?_⟩
  · unfold alL; rw [if_neg h]
  · unfold alB; rw [decide_eq_false (fun h' => h ⟨h'.1, h'.2.1, h'.2.2.1⟩)]

end Go.Proofs.Ytojbaepcflkgeaa
