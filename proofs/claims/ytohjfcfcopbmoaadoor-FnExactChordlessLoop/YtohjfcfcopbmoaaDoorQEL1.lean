/- The texts EL1, EL2, EL3, EL4, EL5, joined. -/
import Derived.Test.YtohjfcfcopbmoaaDoorQEO1
import Derived.Test.YtohjfcfcopbmoaaDoorQM9
import Derived.Deep.RegionLaw
import Derived.Test.YtohjfcfcopbmoaaDoorQF6
import Derived.Test.YtohjfcfcopbmoaaDoorQC1
import Derived.Test.YtohjfcfcopbmoaaDoorQN3
import Derived.Test.YtohjfcfcopbmoaaDoorQM4
import Derived.Test.YtohjfcfcopbmoaaDoorQD5
import Derived.Deep.RegionHeld3

/- Walks: of a vertex's neighbours those that are left. -/
namespace Go.Proofs.YtohjfcfcopbmoaaDoor
open Go.RowKit

theorem rowIs_below {w w' : World} {b n : Nat} {t : TypeId} {f : Nat → Value} (h : w.rowIs b t n f) (hb : Below w.heap.size w w') : w'.rowIs b t n f := h.of_block (hb.block _ h.lt)
theorem rowIs_belowB {w w' : World} {B b n : Nat} {t : TypeId} {f : Nat → Value} (h : w.rowIs b t n f) (hb : Below B w w') (hB : b < B) : w'.rowIs b t n f := h.of_block (hb.block _ hB)

/-- Of a row those that have not gone. -/
def stay (p : Nat → Bool) (xs : List Int) : List Int := xs.filter (fun x => !p x.toNat)
theorem stay_len (p : Nat → Bool) (xs : List Int) : (stay p xs).length ≤ xs.length := List.length_filter_le _ _
theorem stay_mem (p : Nat → Bool) (xs : List Int) (z : Int) : z ∈ stay p xs ↔ z ∈ xs ∧ p z.toNat = false := by simp [stay]
theorem stay_take {xs : List Int} {k : Nat} (p : Nat → Bool) (hk : k < xs.length) : stay p (xs.take (k + 1)) = stay p (xs.take k) ++ if p (nth xs k).toNat = true then [] else [nth xs k] := by
  rw [take_snoc hk]
  unfold stay
  rw [List.filter_append]
  congr 1
  by_cases h : p (nth xs k).toNat = true
  · simp [h]
  · simp [h]
theorem stay_pm (q p : Nat → Bool) : stay p (listM (pm q)) = listM (pm (fun j => q j && !p j)) := by
  refine sets_eq (SetP.mk ((listM_set _).pairwise.sublist List.filter_sublist) (fun z hz => (listM_set (pm q)).bounds z ((stay_mem _ _ _).1 hz).1)) (listM_set _) (fun z => ?_)
  rw [stay_mem, listM_mem, listM_mem]
  constructor
  · rintro ⟨⟨i, h1, h2, rfl⟩, h3⟩
    rw [Int.toNat_natCast] at h3
    rw [pm_bit, Bool.and_eq_true] at h2
    exact ⟨i, h1, by rw [pm_bit, h2.2, h3]; simp [h1], rfl⟩
  · rintro ⟨i, h1, h2, rfl⟩
    rw [pm_bit, Bool.and_eq_true, Bool.and_eq_true] at h2
    refine ⟨⟨i, h1, by rw [pm_bit, h2.2.1]; simp [h1], rfl⟩, ?_⟩
    rw [Int.toNat_natCast]
    simpa using h2.2.2

end Go.Proofs.YtohjfcfcopbmoaaDoor

/- Walks: all of a list become neighbours. -/
namespace Go.Proofs.YtohjfcfcopbmoaaDoor
open Go.RowKit

open Classical in
/-- Pairs of a list joined: those of the first i elements, and of the next one with the first k. -/
noncomputable def clA (A : Nat → Nat → Bool) (xs : List Int) (i k : Nat) (x y : Nat) : Bool :=
  A x y || decide (∃ q p, p < q ∧ (q < i ∨ (q = i ∧ p < k)) ∧ ((x = vtxN xs p ∧ y = vtxN xs q) ∨ (x = vtxN xs q ∧ y = vtxN xs p)))
open Classical in
theorem clA_zero (A : Nat → Nat → Bool) (xs : List Int) : clA A xs 0 0 = A := by
  funext x y
  unfold clA
  rw [decide_eq_false (by rintro ⟨q, p, h1, h2, _⟩; omega), Bool.or_false]
open Classical in
theorem clA_link (A : Nat → Nat → Bool) (xs : List Int) {i k : Nat} (h : k < i) : clA A xs i (k + 1) = linkA (clA A xs i k) (vtxN xs k) (vtxN xs i) := by
  funext x y
  unfold clA linkA
  rw [Bool.eq_iff_iff]
  simp only [Bool.or_eq_true, decide_eq_true_eq, Bool.and_eq_true, beq_iff_eq]
  constructor
  · rintro (h1 | ⟨q, p, h1, h2, h3⟩)
    · exact Or.inl (Or.inl (Or.inl h1))
    · by_cases e : q = i ∧ p = k
      · obtain ⟨rfl, rfl⟩ := e
        rcases h3 with h3 | h3
        · exact Or.inl (Or.inr h3)
        · exact Or.inr h3
      · exact Or.inl (Or.inl (Or.inr ⟨q, p, h1, by omega, h3⟩))
  · rintro (((h1 | ⟨q, p, h1, h2, h3⟩) | h1) | h1)
    · exact Or.inl h1
    · exact Or.inr ⟨q, p, h1, by omega, h3⟩
    · exact Or.inr ⟨i, k, h, by omega, Or.inl h1⟩
    · exact Or.inr ⟨i, k, h, by omega, Or.inr h1⟩
open Classical in
theorem clA_next (A : Nat → Nat → Bool) (xs : List Int) (i : Nat) : clA A xs i i = clA A xs (i + 1) 0 := by
  funext x y
  unfold clA
  congr 1
  rw [Bool.eq_iff_iff, decide_eq_true_iff, decide_eq_true_iff]
  constructor
  · rintro ⟨q, p, h1, h2, h3⟩; exact ⟨q, p, h1, by omega, h3⟩
  · rintro ⟨q, p, h1, h2, h3⟩; exact ⟨q, p, h1, by omega, h3⟩
theorem vtx_listM {S : Nat → Bool} {k : Nat} (h : k < (listM (pm S)).length) : S (vtxN (listM (pm S)) k) = true ∧ vtxN (listM (pm S)) k < 16 ∧ nth (listM (pm S)) k = ((vtxN (listM (pm S)) k : Nat) : Int) := by
  obtain ⟨i, h1, h2, h3⟩ := (listM_mem _ _).1 (nth_mem h)
  rw [pm_bit, Bool.and_eq_true] at h2
  unfold vtxN
  rw [← h3, Int.toNat_natCast]
  exact ⟨h2.2, h1, rfl⟩
theorem vtx_some {S : Nat → Bool} {u : Nat} (hu : u < 16) (h : S u = true) : ∃ k, k < (listM (pm S)).length ∧ vtxN (listM (pm S)) k = u := by
  have hm : (u : Int) ∈ listM (pm S) := (listM_mem _ _).2 ⟨u, hu, by rw [pm_bit, h]; simp [hu], rfl⟩
  obtain ⟨k, hk, e⟩ := List.getElem_of_mem hm
  refine ⟨k, hk, ?_⟩
  unfold vtxN
  rw [nth_eq hk, e, Int.toNat_natCast]
open Classical in
theorem clA_all {A : Nat → Nat → Bool} {S : Nat → Bool} (hS : ∀ u, S u = true → u < 16) : clA A (listM (pm S)) (listM (pm S)).length 0 = cliqueA A S := by
  funext x y
  unfold clA cliqueA
  congr 1
  rw [Bool.eq_iff_iff, decide_eq_true_iff, Bool.and_eq_true, Bool.and_eq_true, bne_iff_ne]
  constructor
  · rintro ⟨q, p, h1, h2, h3⟩
    have hq : q < (listM (pm S)).length := by omega
    have hp : p < (listM (pm S)).length := by omega
    have hne : vtxN (listM (pm S)) p ≠ vtxN (listM (pm S)) q := fun e => by have := vtx_inj hp hq e; omega
    rcases h3 with ⟨rfl, rfl⟩ | ⟨rfl, rfl⟩
    · exact ⟨⟨(vtx_listM hp).1, (vtx_listM hq).1⟩, hne⟩
    · exact ⟨⟨(vtx_listM hq).1, (vtx_listM hp).1⟩, hne.symm⟩
  · rintro ⟨⟨h1, h2⟩, h3⟩
    obtain ⟨p, hp, rfl⟩ := vtx_some (hS x h1) h1
    obtain ⟨q, hq, rfl⟩ := vtx_some (hS y h2) h2
    rcases Nat.lt_trichotomy p q with e | e | e
    · exact ⟨q, p, e, by omega, Or.inl ⟨rfl, rfl⟩⟩
    · subst e; exact absurd rfl h3
    · exact ⟨p, q, e, by omega, Or.inr ⟨rfl, rfl⟩⟩

/-- At work: the boxes of the argument and the result, the graph, the rest of the heap. -/
structure CliqW (w0 : World) (B g n cap : Nat) (R : Nat → Nat → Bool) (w : World) : Prop where
  arg : BoxT 29 w w0.heap.size (.slice (some ⟨g, 0, none⟩) n cap)
  res : BoxT 29 w (w0.heap.size + 1) (.slice none 0 0)
  gr : OwnGrid 2 26 w B (.slice (some ⟨g, 0, none⟩) n cap) (adjL n R)
  bel : Below B w0 w
  oth : ∀ k, k < w0.heap.size → k ≠ g → w.heap[k]? = w0.heap[k]?
  sz : w0.heap.size + 1 + 1 ≤ w.heap.size
theorem CliqW.keep {w0 : World} {B g n cap : Nat} {R : Nat → Nat → Bool} {w w' : World} (h : CliqW w0 B g n cap R w) (hb : Below w.heap.size w w') (hB : B ≤ w0.heap.size) : CliqW w0 B g n cap R w' := by
  have hs := h.sz
  exact ⟨h.arg.keep hb, h.res.keep hb, h.gr.keep hb, h.bel.trans (hb.mono (by omega)), fun k hk hkg => by rw [hb.block k (by omega)]; exact h.oth k hk hkg, Nat.le_trans hs hb.size⟩

end Go.Proofs.YtohjfcfcopbmoaaDoor

/- Walks: the model's filled graph. -/
namespace Go.Proofs.YtohjfcfcopbmoaaDoor
open Go.RowKit

theorem Tryd.infoBo : (Tryd.prog.info? 4).map (fun i => (i.zero, i.size, i.bytes)) = some (some (.bool false), 1, 1) := by kernel_rfl

/-- A graph at work in a box, beside it a row that tells who has gone. -/
structure FillW (w0 : World) (B b5 g gb n cap : Nat) (F : Nat → Nat → Bool) (p : Nat → Bool) (w : World) : Prop where
  out : BoxT 29 w b5 (.slice (some ⟨g, 0, none⟩) n cap)
  gr : OwnGrid 2 26 w B (.slice (some ⟨g, 0, none⟩) n cap) (adjL n F)
  gone : w.rowIs gb 4 n (fun i => .bool (p i))
  bel : Below B w0 w
theorem rowIs_type {w : World} {b n : Nat} {t : TypeId} {f : Nat → Value} (h : w.rowIs b t n f) : ∃ cur, w.heap[b]? = some (.cells cur t (0, 0)) := by
  obtain ⟨c, hb, _⟩ := h
  exact ⟨c, hb⟩
theorem FillW.keep {w0 : World} {B b5 g gb n cap : Nat} {F : Nat → Nat → Bool} {p : Nat → Bool} {w w' : World} (h : FillW w0 B b5 g gb n cap F p w) (hb : Below w.heap.size w w') (hB : B ≤ w.heap.size) : FillW w0 B b5 g gb n cap F p w' :=
  ⟨h.out.keep hb, h.gr.keep hb, rowIs_below h.gone hb, h.bel.trans (hb.mono hB)⟩
theorem FillW.flag {w0 : World} {B b5 g gb n cap : Nat} {F : Nat → Nat → Bool} {p : Nat → Bool} {w : World} (h : FillW w0 B b5 g gb n cap F p w) (v : Nat) (hB : B ≤ gb) (hb5 : b5 ≠ gb) : FillW w0 B b5 g gb n cap F (fun i => if i = v then true else p i) (w.setCell ⟨gb, v, none⟩ (.bool true)) := by
  obtain ⟨cur, hc⟩ := rowIs_type h.gone
  refine ⟨h.out.setOther hb5 _, h.gr.setType hc (by decide) (by decide) v _, (h.gone.set v (.bool true)).congr (fun i _ => ?_), h.bel.setCell hB _⟩
  by_cases e : i = v
  · rw [if_pos e, if_pos e]
  · rw [if_neg e, if_neg e]
theorem FillW.congr {w0 : World} {B b5 g gb n cap : Nat} {F F' : Nat → Nat → Bool} {p p' : Nat → Bool} {w : World} (h : FillW w0 B b5 g gb n cap F p w) (e : F = F') (e2 : ∀ i, i < n → p i = p' i) : FillW w0 B b5 g gb n cap F' p' w :=
  ⟨h.out, by rw [← e]; exact h.gr, h.gone.congr (fun i hi => by rw [e2 i hi]), h.bel⟩
/-- The graph has turned, nothing else that was there; it is put back into its box. -/
theorem FillW.turned {w0 : World} {B b5 g gb n cap : Nat} {F F' : Nat → Nat → Bool} {p : Nat → Bool} {w w' : World} (h : FillW w0 B b5 g gb n cap F p w) (ho : OwnGrid 2 26 w' B (.slice (some ⟨g, 0, none⟩) n cap) (adjL n F')) (hb : Below B w w') (ht : ∀ k, k < w.heap.size → k ≠ g → w'.heap[k]? = w.heap[k]?)
    (h5 : b5 ≠ g) (hgb : gb ≠ g) (h5g : b5 ≠ gb) (hB5 : B ≤ b5) : BoxT 29 w' b5 (.slice (some ⟨g, 0, none⟩) n cap) ∧ FillW w0 B b5 g gb n cap F' p (w'.setCell ⟨b5, 0, none⟩ (.slice (some ⟨g, 0, none⟩) n cap)) := by
  have h1 : BoxT 29 w' b5 (.slice (some ⟨g, 0, none⟩) n cap) := by unfold BoxT; rw [ht _ h.out.lt h5]; exact h.out
  have h2 : w'.rowIs gb 4 n (fun i => .bool (p i)) := h.gone.of_block (ht _ h.gone.lt hgb)
  exact ⟨h1, h1.set _, ho.setType h1 (by decide) (by decide) 0 _, h2.setOther (a := ⟨b5, 0, none⟩) (fun e => h5g e.symm) _, (h.bel.trans hb).setCell hB5 _⟩

theorem left_row {n : Nat} {F : Nat → Nat → Bool} {v : Nat} (hv : v < n) (p : Nat → Bool) : stay p (nthR (adjL n F) v) = listM (pm (fun u => F v u && !p u)) := by
  rw [adjL_nth _ hv, stay_pm]
theorem adj_setP {n : Nat} {F : Nat → Nat → Bool} (h : RelP n F) (hn : 1 ≤ n ∧ n ≤ 16) {v : Nat} (hv : v < n) : SetP (nthR (adjL n F) v) ((adjL n F).length : Int) := by
  have hG := h.graph hn
  exact (hG.2.1 v (by rw [adjL_len]; exact hv)).1
theorem keep2 (p : Nat → Bool) (v : Nat) : (fun i => if i = v then true else p i) = fun i => p i || i == v := by
  funext i
  by_cases e : i = v
  · rw [if_pos e, e]; simp
  · rw [if_neg e]
    have : (i == v) = false := by rw [beq_eq_false_iff_ne]; exact e
    rw [this, Bool.or_false]
theorem hasB_more {ys : List Int} {v i : Nat} : (if i = v then true else hasB ys (i : Int)) = hasB (ys ++ [(v : Int)]) (i : Int) := by
  rw [hasB_snoc]
  by_cases e : i = v
  · subst e; simp
  · have : ((i : Int) == (v : Int)) = false := by rw [beq_eq_false_iff_ne]; omega
    rw [if_neg e, this, Bool.or_false]

end Go.Proofs.YtohjfcfcopbmoaaDoor

/- Walks: of each vertex its later neighbours, of the model. -/
namespace Go.Proofs.YtohjfcfcopbmoaaDoor
open Go.RowKit

/-- The later neighbours of those that have gone in the first k rounds. -/
def partA (A : Nat → Nat → Bool) (xs : List Int) (k i j : Nat) : Bool := hasB (xs.take k) (i : Int) && laterA A xs i j
theorem adjL_set {n : Nat} {R R' : Nat → Nat → Bool} {u : Nat} (h : ∀ i, i < n → i ≠ u → ∀ j, j < 16 → R' i j = R i j) : (adjL n R).set u (listM (pm (R' u))) = adjL n R' := by
  apply nthR_ext
  · rw [List.length_set, adjL_len, adjL_len]
  · intro i hi
    rw [List.length_set, adjL_len] at hi
    rw [adjL_nth _ hi]
    by_cases e : u = i
    · subst e
      unfold nthR
      rw [List.getD_eq_getElem?_getD, List.getElem?_set_self (by rw [adjL_len]; exact hi)]; rfl
    · rw [nthR_set_ne _ e, adjL_nth _ hi, pm_congr (fun j hj => h i hi (fun e2 => e e2.symm) j hj)]
theorem part_zero (n : Nat) (A : Nat → Nat → Bool) (xs : List Int) (M : Nat → Nat) : partL n M 0 = adjL n (partA A xs 0) := by
  apply nthR_ext
  · rw [partL_len, adjL_len]
  · intro i hi
    rw [partL_len] at hi
    rw [partL_nth M 0 hi, if_neg (by omega), adjL_nth _ hi]
    have : partA A xs 0 i = fun _ => false := by
      funext j
      unfold partA
      have : hasB (xs.take 0) (i : Int) = false := hasB_false.2 (by simp)
      rw [this]; rfl
    rw [this, pm_false, listM_zero]
theorem part_next {A : Nat → Nat → Bool} {n : Nat} {xs : List Int} {k u : Nat} (hk : k < xs.length) (e : nth xs k = (u : Int)) (hO : OrdP xs n) :
    (adjL n (partA A xs k)).set u (listM (pm (laterA A xs u))) = adjL n (partA A xs (k + 1)) := by
  have hu : partA A xs (k + 1) u = laterA A xs u := by
    funext j
    unfold partA
    have : hasB (xs.take (k + 1)) (u : Int) = true := (hasB_mem _ _).2 (by rw [take_snoc hk, e]; simp)
    rw [this]; rfl
  rw [← hu]
  refine adjL_set (fun i _ hi j _ => ?_)
  unfold partA
  rw [take_snoc hk, e, hasB_snoc]
  have : ((i : Int) == (u : Int)) = false := by rw [beq_eq_false_iff_ne]; omega
  rw [this, Bool.or_false]
theorem laterPart_all {A : Nat → Nat → Bool} {n : Nat} {xs : List Int} (hO : OrdP xs n) : adjL n (partA A xs xs.length) = adjL n (laterA A xs) := by
  refine adjL_congr (fun i hi j _ => ?_)
  unfold partA
  rw [List.take_length, (hasB_mem _ _).2 (ordP_mem hO hi)]; rfl

/-- At work: the filled graph is done, who has gone, the rows so far. -/
structure LaterW (wF : World) (gb gr n : Nat) (R : Nat → Nat → Bool) (p : Nat → Bool) (w : World) : Prop where
  gone : w.rowIs gb 4 n (fun i => .bool (p i))
  rows : OwnGrid 2 26 w gr (.slice (some ⟨gr, 0, none⟩) n n) (adjL n R)
  bel : Below wF.heap.size wF w
theorem LaterW.keep {wF : World} {gb gr n : Nat} {R : Nat → Nat → Bool} {p : Nat → Bool} {w w' : World} (h : LaterW wF gb gr n R p w) (hb : Below w.heap.size w w') : LaterW wF gb gr n R p w' :=
  ⟨rowIs_below h.gone hb, h.rows.keep hb, h.bel.trans (hb.mono h.bel.size)⟩
theorem LaterW.flag {wF : World} {gb gr n : Nat} {R : Nat → Nat → Bool} {p : Nat → Bool} {w : World} (h : LaterW wF gb gr n R p w) (v : Nat) (hg : gb < gr) (hF : wF.heap.size ≤ gb) : LaterW wF gb gr n R (fun i => if i = v then true else p i) (w.setCell ⟨gb, v, none⟩ (.bool true)) := by
  refine ⟨(h.gone.set v (.bool true)).congr (fun i _ => ?_), h.rows.setBelow hg _, h.bel.setCell hF _⟩
  by_cases e : i = v
  · rw [if_pos e, if_pos e]
  · rw [if_neg e, if_neg e]
theorem LaterW.congr {wF : World} {gb gr n : Nat} {R R' : Nat → Nat → Bool} {p p' : Nat → Bool} {w : World} (h : LaterW wF gb gr n R p w) (e : adjL n R = adjL n R') (e2 : ∀ i, i < n → p i = p' i) : LaterW wF gb gr n R' p' w :=
  ⟨h.gone.congr (fun i hi => by rw [e2 i hi]), by rw [← e]; exact h.rows, h.bel⟩

theorem later_put {wF wd w8 : World} {gb gr n u m : Nat} {R R' : Nat → Nat → Bool} {p : Nat → Bool} {q : Nat → Bool} {a : Option Addr} {c : Nat} (h : LaterW wF gb gr n R p wd) (h8 : LaterW wF gb gr n R p w8) (hb : Below wd.heap.size wd w8) (ho : OwnRow 2 w8 wd.heap.size (.slice a m c) (listM (pm q)))
    (e : (adjL n R).set u (listM (pm q)) = adjL n R') (hu : u < n) (hz : gr ≤ wd.heap.size) (hz2 : gb < gr ∧ wF.heap.size ≤ gr) : LaterW wF gb gr n R' p (w8.setCell ⟨gr, u, none⟩ (.slice a m c)) := by
  have hr := OwnGrid.setRow (w := wd) (w' := w8) (by decide) h.rows hb (by rw [adjL_len]; exact hu) (ho.mono hz) (fun k hk => Or.inl (ho.lt k hk).1)
  rw [e] at hr
  exact ⟨h8.gone.setOther (a := ⟨gr, u, none⟩) (by simp; omega) _, hr, h8.bel.setCell hz2.2 _⟩

end Go.Proofs.YtohjfcfcopbmoaaDoor

/- Walks: FillOf, LaterOf, OrderWidth, FillMany, PerfectIn of the model. -/
namespace Go.Proofs.YtohjfcfcopbmoaaDoor
open Go.RowKit

/-- What they answer. -/
def fillL (L : List (List Int)) (xs : List Int) : List (List Int) := if orderB L xs = true then adjL L.length (fillX (adjB L) xs) else []
def laterL (L : List (List Int)) (xs : List Int) : List (List Int) := if orderB L xs = true then adjL L.length (laterA (adjB L) xs) else []
def widthI (L : List (List Int)) (xs : List Int) : Int := if orderB L xs = true then (widthX (adjB L) xs L.length : Int) else -1
def moreI (L : List (List Int)) (xs : List Int) : Int := if orderB L xs = true then manyN (adjL L.length (fillX (adjB L) xs)) - manyN L else -1
def perfB (L : List (List Int)) (xs : List Int) : Bool := moreI L xs == 0
theorem fillL_no {L : List (List Int)} {xs : List Int} (h : orderB L xs = false) : fillL L xs = [] := by unfold fillL; rw [h]; rfl
theorem laterL_no {L : List (List Int)} {xs : List Int} (h : orderB L xs = false) : laterL L xs = [] := by unfold laterL; rw [h]; rfl
theorem fillL_small (L : List (List Int)) (xs : List Int) : Small (fillL L xs) := by
  unfold fillL
  split
  · rename_i h; exact adjL_small _ _ (orderB_yes h).1.1.2
  · exact ⟨by simp, fun i hi => absurd hi (by simp)⟩
theorem laterL_small (L : List (List Int)) (xs : List Int) : Small (laterL L xs) := by
  unfold laterL
  split
  · rename_i h; exact adjL_small _ _ (orderB_yes h).1.1.2
  · exact ⟨by simp, fun i hi => absurd hi (by simp)⟩
theorem many_le {L : List (List Int)} : 0 ≤ manyN L ∧ manyN L ≤ 1048576 := by
  have := (edgesL_small L).1
  unfold manyN
  omega

theorem listM_szB (p : Nat → Bool) : (listM (pm p)).length = szB p := by
  have h := sum_listM (pm p) (fun _ => true)
  have e : sumTo (fun _ => if true = true then 1 else 0) (listM (pm p)).length = (listM (pm p)).length := by
    generalize (listM (pm p)).length = n
    induction n with
    | zero => rfl
    | succ n ih => rw [sumTo, ih]; rfl
  rw [e] at h
  rw [← h, szB_sum]
  refine sumTo_congr (fun j hj => ?_)
  rw [pm_bit]; simp [hj]
theorem later_size (A : Nat → Nat → Bool) (n : Nat) {i : Nat} (hi : i < n) : (nthR (adjL n A) i).length = szB (A i) := by
  rw [adjL_nth _ hi, listM_szB]

end Go.Proofs.YtohjfcfcopbmoaaDoor
