/- The texts GM1, GM2, joined. -/
import Derived.Test.YtojbaepcflkgeaaQM1
import Derived.Test.YtojbaepcflkgeaaQJ5

/- Plain facts: graphs by a rule on pairs; the model's graph while it is made. -/
namespace Go.Proofs.Ytojbaepcflkgeaa
open Go.RowKit

/-- Who is near whom of n vertices by a rule on pairs u < v. -/
def symA (n : Nat) (R : Nat → Nat → Bool) (i j : Nat) : Bool := if i < j then decide (j < n) && R i j else if j < i then decide (i < n) && R j i else false
theorem symA_sym (n : Nat) (R : Nat → Nat → Bool) (i j : Nat) : symA n R i j = symA n R j i := by
  unfold symA
  by_cases h1 : i < j
  · rw [if_pos h1, if_neg (by omega), if_pos h1]
  · by_cases h2 : j < i
    · rw [if_neg h1, if_pos h2, if_pos h2]
    · rw [if_neg h1, if_neg h2, if_neg h2, if_neg h1]
theorem symA_self (n : Nat) (R : Nat → Nat → Bool) (i : Nat) : symA n R i i = false := by unfold symA; rw [if_neg (Nat.lt_irrefl _), if_neg (Nat.lt_irrefl _)]
theorem symA_range {n : Nat} {R : Nat → Nat → Bool} {i j : Nat} (h : symA n R i j = true) : i < n ∧ j < n := by
  unfold symA at h
  by_cases h1 : i < j
  · rw [if_pos h1, Bool.and_eq_true, decide_eq_true_iff] at h; omega
  · by_cases h2 : j < i
    · rw [if_neg h1, if_pos h2, Bool.and_eq_true, decide_eq_true_iff] at h; omega
    · rw [if_neg h1, if_neg h2] at h; cases h
theorem symA_lt {n : Nat} (R : Nat → Nat → Bool) {i j : Nat} (h : i < j) (hj : j < n) : symA n R i j = R i j := by unfold symA; rw [if_pos h, decide_eq_true hj, Bool.true_and]
theorem symA_gt {n : Nat} (R : Nat → Nat → Bool) {i j : Nat} (h : i < j) (hj : j < n) : symA n R j i = R i j := by rw [symA_sym, symA_lt R h hj]
theorem symA_graph {n : Nat} (R : Nat → Nat → Bool) (h1 : 1 ≤ n) (h2 : n ≤ 16) : GraphP (adjL n (symA n R)) := adjL_graph ⟨h1, h2⟩ (fun _ _ h => (symA_range h).2) (symA_sym n R) (symA_self n R)
/-- A relation that is the rule on pairs, goes both ways and has no loops, is the rule's. -/
theorem symA_of {n : Nat} {R A : Nat → Nat → Bool} (hs : ∀ i j, A i j = A j i) (hl : ∀ i, A i i = false) (hr : ∀ i j, A i j = true → i < n ∧ j < n) (h : ∀ u v, u < v → v < n → A u v = R u v) (i j : Nat) : A i j = symA n R i j := by
  unfold symA
  by_cases h1 : i < j
  · rw [if_pos h1]
    by_cases hj : j < n
    · rw [decide_eq_true hj, Bool.true_and, h i j h1 hj]
    · rw [decide_eq_false hj, Bool.false_and]
      cases hb : A i j with
      | false => rfl
      | true => exact absurd (hr i j hb).2 hj
  · by_cases h2 : j < i
    · rw [if_neg h1, if_pos h2, hs i j]
      by_cases hj : i < n
      · rw [decide_eq_true hj, Bool.true_and, h j i h2 hj]
      · rw [decide_eq_false hj, Bool.false_and]
        cases hb : A j i with
        | false => rfl
        | true => exact absurd (hr j i hb).2 hj
    · rw [if_neg h1, if_neg h2]
      obtain rfl : i = j := by omega
      exact hl i
theorem symA_congr {n : Nat} {R R' : Nat → Nat → Bool} (h : ∀ u v, u < v → v < n → R u v = R' u v) (i j : Nat) : symA n R i j = symA n R' i j :=
  symA_of (symA_sym n R) (symA_self n R) (fun _ _ => symA_range) (fun u v huv hv => by rw [symA_lt R huv hv, h u v huv hv]) i j

/-- A graph by a rule, if there is one. -/
def genL (ok : Bool) (n : Nat) (R : Nat → Nat → Bool) : List (List Int) := if ok then adjL n (symA n R) else []
theorem genL_yes (n : Nat) (R : Nat → Nat → Bool) : genL true n R = adjL n (symA n R) := rfl
theorem genL_no (n : Nat) (R : Nat → Nat → Bool) : genL false n R = [] := rfl
theorem genL_small {ok : Bool} {n : Nat} (R : Nat → Nat → Bool) (h : ok = true → n ≤ 16) : Small (genL ok n R) := by
  cases ok with
  | false => exact ⟨by simp [genL], fun i hi => absurd hi (by simp [genL])⟩
  | true => exact adjL_small _ _ (h rfl)

/-- All pairs of one more vertex. -/
theorem stepA_ext {R B : Nat → Nat → Bool} {v : Nat} (hs : ∀ i j, R i j = R j i) (hl : ∀ i, R i i = false)
    (h : ∀ i j, B i j = (stepA R v 0 i j || (decide (j = v) && (decide (i < v) && R i v)) || (decide (i = v) && (decide (j < v) && R j v)))) (i j : Nat) : stepA R (v + 1) 0 i j = B i j := by
  rw [h]
  unfold stepA doneB
  by_cases e : i = j
  · subst e
    rw [hl]
    by_cases e2 : i = v
    · subst e2; simp
    · simp [e2]
  · by_cases e1 : j = v
    · subst e1
      have h2 : ¬ i = j := e
      by_cases h3 : i < j
      · have d1 : decide ((i < j + 1 ∧ j < j + 1) ∨ (i = j + 1 ∧ j < 0) ∨ (j = j + 1 ∧ i < 0)) = true := by rw [decide_eq_true_iff]; omega
        have d2 : decide ((i < j ∧ j < j) ∨ (i = j ∧ j < 0) ∨ (j = j ∧ i < 0)) = false := by rw [decide_eq_false_iff_not]; omega
        rw [d1, d2]; simp [h2, h3]
      · have d1 : decide ((i < j + 1 ∧ j < j + 1) ∨ (i = j + 1 ∧ j < 0) ∨ (j = j + 1 ∧ i < 0)) = false := by rw [decide_eq_false_iff_not]; omega
        have d2 : decide ((i < j ∧ j < j) ∨ (i = j ∧ j < 0) ∨ (j = j ∧ i < 0)) = false := by rw [decide_eq_false_iff_not]; omega
        rw [d1, d2]; simp [h2, h3]
    · by_cases e2 : i = v
      · subst e2
        by_cases h3 : j < i
        · have d1 : decide ((i < i + 1 ∧ j < i + 1) ∨ (i = i + 1 ∧ j < 0) ∨ (j = i + 1 ∧ i < 0)) = true := by rw [decide_eq_true_iff]; omega
          have d2 : decide ((i < i ∧ j < i) ∨ (i = i ∧ j < 0) ∨ (j = i ∧ i < 0)) = false := by rw [decide_eq_false_iff_not]; omega
          rw [d1, d2, hs i j]; simp [e1, h3]
        · have d1 : decide ((i < i + 1 ∧ j < i + 1) ∨ (i = i + 1 ∧ j < 0) ∨ (j = i + 1 ∧ i < 0)) = false := by rw [decide_eq_false_iff_not]; omega
          have d2 : decide ((i < i ∧ j < i) ∨ (i = i ∧ j < 0) ∨ (j = i ∧ i < 0)) = false := by rw [decide_eq_false_iff_not]; omega
          rw [d1, d2]; simp [e1, h3]
      · have d : decide ((i < v + 1 ∧ j < v + 1) ∨ (i = v + 1 ∧ j < 0) ∨ (j = v + 1 ∧ i < 0)) = decide ((i < v ∧ j < v) ∨ (i = v ∧ j < 0) ∨ (j = v ∧ i < 0)) := by
          rw [Bool.eq_iff_iff, decide_eq_true_iff, decide_eq_true_iff]; omega
        rw [d]; simp [e1, e2]
theorem stepA_none {R : Nat → Nat → Bool} {v : Nat} (hs : ∀ i j, R i j = R j i) (hl : ∀ i, R i i = false) (h : ∀ u, u < v → R u v = false) (i j : Nat) : stepA R (v + 1) 0 i j = stepA R v 0 i j := by
  refine stepA_ext hs hl (fun i j => ?_) i j
  have q : ∀ k, (decide (k < v) && R k v) = false := fun k => by
    by_cases hk : k < v
    · rw [h k hk, Bool.and_false]
    · rw [decide_eq_false hk, Bool.false_and]
  rw [q, q]; simp
theorem stepA_one {R : Nat → Nat → Bool} {v x : Nat} (hs : ∀ i j, R i j = R j i) (hl : ∀ i, R i i = false) (hx : x < v) (h : ∀ u, u < v → R u v = decide (u = x)) (i j : Nat) : stepA R (v + 1) 0 i j = linkA (stepA R v 0) x v i j := by
  refine stepA_ext hs hl (fun i j => ?_) i j
  have q : ∀ k, (decide (k < v) && R k v) = decide (k = x) := fun k => by
    by_cases hk : k < v
    · rw [h k hk, decide_eq_true hk, Bool.true_and]
    · rw [decide_eq_false hk, Bool.false_and, decide_eq_false (by omega)]
  rw [q, q]
  unfold linkA
  have e1 : (i == x && j == v) = (decide (j = v) && decide (i = x)) := by rw [Bool.eq_iff_iff]; simp; exact and_comm
  have e2 : (i == v && j == x) = (decide (i = v) && decide (j = x)) := by rw [Bool.eq_iff_iff]; simp
  rw [e1, e2]
theorem stepA_two {R : Nat → Nat → Bool} {v x y : Nat} (hs : ∀ i j, R i j = R j i) (hl : ∀ i, R i i = false) (hx : x < v) (hy : y < v) (h : ∀ u, u < v → R u v = (decide (u = x) || decide (u = y))) (i j : Nat) : stepA R (v + 1) 0 i j = linkA (linkA (stepA R v 0) x v) y v i j := by
  refine stepA_ext hs hl (fun i j => ?_) i j
  have q : ∀ k, (decide (k < v) && R k v) = (decide (k = x) || decide (k = y)) := fun k => by
    by_cases hk : k < v
    · rw [h k hk, decide_eq_true hk, Bool.true_and]
    · rw [decide_eq_false hk, Bool.false_and, decide_eq_false (by omega), decide_eq_false (by omega)]; rfl
  rw [q, q]
  unfold linkA
  rw [Bool.eq_iff_iff]
  simp only [Bool.or_eq_true, Bool.and_eq_true, decide_eq_true_eq, beq_iff_eq]
  constructor
  · rintro ((((h | h) | h) | h) | h)
    · exact Or.inl (Or.inl h)
    · exact Or.inl (Or.inr ⟨h.2, Or.inl h.1⟩)
    · exact Or.inr ⟨h.1, Or.inl h.2⟩
    · exact Or.inl (Or.inr ⟨h.2, Or.inr h.1⟩)
    · exact Or.inr ⟨h.1, Or.inr h.2⟩
  · rintro ((h | ⟨h1, h2 | h2⟩) | ⟨h1, h2 | h2⟩)
    · exact Or.inl (Or.inl (Or.inl (Or.inl h)))
    · exact Or.inl (Or.inl (Or.inl (Or.inr ⟨h2, h1⟩)))
    · exact Or.inl (Or.inr ⟨h2, h1⟩)
    · exact Or.inl (Or.inl (Or.inr ⟨h1, h2⟩))
    · exact Or.inr ⟨h1, h2⟩

/-- A model's graph while it is made: the result's box, the box of the graph, and its own memory. -/
structure Mk (w0 : World) (bo n : Nat) (A : Nat → Nat → Bool) (w : World) : Prop where
  res : BoxAt w w0.heap.size (.slice none 0 0)
  out : ∃ a c, BoxT 30 w bo (.slice a n c) ∧ OwnGrid 2 35 w (w0.heap.size + 1) (.slice a n c) (adjL n A)
  bel : Below w0.heap.size w0 w
theorem Mk.keep {w0 : World} {bo n : Nat} {A : Nat → Nat → Bool} {w w' : World} (h : Mk w0 bo n A w) (hb : Below w.heap.size w w') : Mk w0 bo n A w' := by
  obtain ⟨h2, ⟨a, c, h3, h4⟩, h5⟩ := h
  exact ⟨h2.keep hb, ⟨a, c, h3.keep hb, h4.keep hb⟩, h5.trans (hb.mono (Nat.le_of_lt h2.lt))⟩
theorem Mk.congr {w0 : World} {bo n : Nat} {A A' : Nat → Nat → Bool} {w : World} (h : Mk w0 bo n A w) (e : ∀ i j, A i j = A' i j) : Mk w0 bo n A' w := by
  obtain rfl : A = A' := by funext i j; exact e i j
  exact h
/-- Two vertices are joined. -/
theorem Mk.link {w0 : World} {bo n : Nat} {A : Nat → Nat → Bool} {w : World} (h : Mk w0 bo n A w) (hbo : w0.heap.size < bo) (hn : n ≤ 16) (x y : Nat) (hx : x < n) (hy : y < n) (hxy : x ≠ y) :
    ∃ a cap, w.cell? ⟨bo, 0, none⟩ = some (.slice a n cap) ∧
      Calls Try.prog 69 #[.agg #[.slice a n cap], .int .i64 (x : Int), .int .i64 (y : Int)] w (fun e w' => e = .returned (.agg #[.slice a n cap]) ∧ w'.cell? ⟨bo, 0, none⟩ = some (.slice a n cap) ∧ w'.frozen? ⟨bo, 0, none⟩ = false ∧ Mk w0 bo n (linkA A x y) (w'.setCell ⟨bo, 0, none⟩ (.slice a n cap)) ∧ Mk w0 bo n (linkA A x y) w') := by
  obtain ⟨h2, ⟨a, c, h3, h4⟩, h5⟩ := h
  obtain ⟨g, cap, eg, hBg, hgs, _⟩ := h4.place (by rw [adjL_len]; omega)
  simp only [adjL_len, Value.slice.injEq, true_and] at eg
  obtain ⟨rfl, rfl⟩ := eg
  have hgne : bo ≠ g := by
    obtain ⟨cur, hcur⟩ := h4.blkT
    intro e
    rw [← e] at hcur
    have hbb : w.heap[bo]? = _ := h3
    rw [hcur] at hbb
    simp at hbb
  refine ⟨_, _, h3.box.1, (l1Link_adj x y g c (w0.heap.size + 1) n A w h4 (by have := h3.lt; omega) hx hy hn hxy).mono ?_⟩
  rintro e w6 ⟨rfl, ho6, hb6, ht6⟩
  have bt6 : BoxT 30 w6 bo (.slice (some ⟨g, 0, none⟩) n c) := by
    unfold BoxT
    rw [ht6 _ h3.lt hgne]
    exact h3
  refine ⟨rfl, bt6.box.1, bt6.box.2, ⟨(h2.keepB hb6 (by omega)).setOther (by simp; omega) _, ⟨_, c, bt6.set _, ho6.setType bt6 (by decide) (by decide) 0 _⟩, (h5.trans (hb6.mono (by omega))).setCell (by simp; omega) _⟩, ⟨h2.keepB hb6 (by omega), ⟨_, c, bt6, ho6⟩, h5.trans (hb6.mono (by omega))⟩⟩
/-- The graph is handed back, and a yes. -/
theorem Mk.done {w0 : World} {bo n : Nat} {A : Nat → Nat → Bool} {w : World} (h : Mk w0 bo n A w) (hbo : w0.heap.size < bo) :
    ∃ a cap, w.cell? ⟨bo, 0, none⟩ = some (.slice a n cap) ∧ w.cell? ⟨w0.heap.size, 0, none⟩ = some (.slice none 0 0) ∧ w.frozen? ⟨w0.heap.size, 0, none⟩ = false ∧
      (w.setCell ⟨w0.heap.size, 0, none⟩ (.slice a n cap)).cell? ⟨w0.heap.size, 0, none⟩ = some (.slice a n cap) ∧
      GaveGB w0 (adjL n A) true (.returned (.tuple #[.agg #[.slice a n cap], .bool true])) (w.setCell ⟨w0.heap.size, 0, none⟩ (.slice a n cap)) := by
  obtain ⟨h2, ⟨a, c, h3, h4⟩, h5⟩ := h
  exact ⟨a, c, h3.box.1, h2.1, h2.2, cell_set_same _ h2.1, n, a, c, rfl, (h4.setBelow (by simp) _).mono (by omega), h5.setCell (by simp) _⟩
/-- .. at its start. -/
theorem Mk.start {w w2 : World} {a : Option Addr} {n c : Nat} {A : Nat → Nat → Bool} (hbx : BoxAt w2 w.heap.size (.slice none 0 0)) (ho : OwnGrid 2 35 w2 (w.heap.size + 1) (.slice a n c) (adjL n A)) (hb : Below w.heap.size w w2) :
    Mk w w2.heap.size n A (w2.alloc (.cells #[.slice a n c] 30)) := by
  have hst : Below w2.heap.size w2 (w2.alloc (.cells #[.slice a n c] 30)) := (Below.refl _ _).alloc (Nat.le_refl _) _
  exact ⟨hbx.keep hst, ⟨a, c, BoxT.new _ _ _, ho.keep hst⟩, hb.alloc hb.size _⟩

/-- A 'no' behind the box of a graph that is dropped. -/
theorem no_end {w w2 : World} (a : Option Addr) (n c : Nat) (hbx : BoxAt w2 w.heap.size (.slice none 0 0)) (hb : Below w.heap.size w w2) :
    ((w2.setCell ⟨w.heap.size, 0, none⟩ (.slice none 0 0)).alloc (.cells #[.slice a n c] 30)).cell? ⟨w.heap.size, 0, none⟩ = some (.slice none 0 0) ∧
    Below w.heap.size w ((w2.setCell ⟨w.heap.size, 0, none⟩ (.slice none 0 0)).alloc (.cells #[.slice a n c] 30)) :=
  ⟨cell_keep ((Below.refl _ _).alloc (Nat.le_refl _) _) (cell_set_same _ hbx.1), (hb.setCell (by simp) _).alloc (by rw [size_setCell1]; exact hb.size) _⟩

end Go.Proofs.Ytojbaepcflkgeaa

/- Walks: the model's paths, loops, full graphs, and what is made of graphs that it has. -/

namespace Go.Proofs.Ytojbaepcflkgeaa
open Go.RowKit

theorem l6Of_no (n : Int) (w : World) (h : inB n 1 16 = false) : Calls Try.prog 67 #[.int .i64 n] w (fun e w' => e = .returned (.tuple #[.agg #[.slice none 0 0], .bool false]) ∧ Below w.heap.size w w') := by
  have HI := Lib.hid h
  have HB0 : Hid (Below w.heap.size w (w.alloc (.cells #[.slice none 0 0] 30))) := (Below.refl _ _).alloc (Nat.le_refl _) _
  clear h
  go_enter Try.func67, Try.ntmps67
  go_wp2_with fail
  refine (l1In_any _ _ _ _).mono ?_
  rintro e w' ⟨rfl, rfl⟩
  rw [HI.out]
  go_wp2
  exact bodyPost_ret (v := .tuple #[.agg #[.slice none 0 0], .bool false]) (by simp [results, Try.results67, go_sem]) rfl ⟨rfl, HB0.out⟩

def pathR (u v : Nat) : Bool := decide (v = u + 1)
theorem path_start (n : Nat) (R : Nat → Nat → Bool) (i j : Nat) : false = stepA (symA n R) 1 0 i j := by
  rw [stepA_none (symA_sym n R) (symA_self n R) (fun u hu => absurd hu (by omega)), stepA_zero]
theorem path_next {n k : Nat} (hk : k + 1 < n) (i j : Nat) : linkA (stepA (symA n pathR) (k + 1) 0) k (k + 1) i j = stepA (symA n pathR) (k + 1 + 1) 0 i j := by
  refine (stepA_one (symA_sym n pathR) (symA_self n pathR) (Nat.lt_succ_self k) (fun u hu => ?_) i j).symm
  rw [symA_lt _ hu hk]
  unfold pathR
  rw [Bool.eq_iff_iff, decide_eq_true_iff, decide_eq_true_iff]
  omega
theorem step_end (n : Nat) (R : Nat → Nat → Bool) : adjL n (stepA (symA n R) n 0) = adjL n (symA n R) := adjL_congr (fun i _ j _ => stepA_all (fun _ _ h => symA_range h) i j)
theorem inB_nat {n lo hi : Int} (h : inB n lo hi = true) (h0 : 0 ≤ lo) : ∃ m : Nat, n = (m : Int) ∧ lo ≤ (m : Int) ∧ (m : Int) ≤ hi := by
  have : lo ≤ n ∧ n ≤ hi := by simpa [inB] using h
  exact ⟨n.toNat, by omega, by omega, by omega⟩

set_option maxHeartbeats 1600000 in
theorem specPathGraph_any (n : Int) (w : World) : Calls Try.prog 38 #[.int .i64 n] w (GaveGB w (genL (inB n 1 16) n.toNat pathR) (inB n 1 16)) := by
  have HB0 : Hid (Below w.heap.size w (w.alloc (.cells #[.slice none 0 0] 30))) := (Below.refl _ _).alloc (Nat.le_refl _) _
  have HBX0 : Hid (BoxAt (w.alloc (.cells #[.slice none 0 0] 30)) w.heap.size (.slice none 0 0)) := BoxAt.new _ _ _
  by_cases hin : inB n 1 16 = true
  · obtain ⟨n, rfl, hn1, hn⟩ := inB_nat hin (by omega)
    have hn1 : 1 ≤ n := by omega
    have hn : n ≤ 16 := by omega
    have HG : Hid (genL (inB (n : Int) 1 16) (n : Int).toNat pathR = adjL n (symA n pathR)) := by show _ = _; rw [hin, genL_yes, Int.toNat_natCast]
    have HI := Lib.hid hin
    clear hin
    go_enter Try.func38, Try.ntmps38
    go_wp2_with fail
    refine (l6Of_any n _ hn1 hn).mono ?_
    rintro e w2 ⟨a2, c2, rfl, ho2, hb2⟩
    rw [size_alloc1] at ho2
    have e0 : maskL n (fun _ => 0) = adjL n (stepA (symA n pathR) 1 0) := by
      rw [maskL_zero n [] |>.symm.trans (adjL_empty n) |> (fun h => (show maskL n (fun _ => 0) = adjL n (fun _ _ => false) from h))]
      exact adjL_congr (fun i _ j _ => path_start n pathR i j)
    rw [e0] at ho2
    have hs2 : w.heap.size < w2.heap.size := by have := hb2.size; rw [size_alloc1] at this; exact this
    have HM := Lib.hid (Mk.start (HBX0.out.keep hb2) ho2 (HB0.out.trans (hb2.mono HB0.out.size)))
    clear ho2 hb2 e0
    go_wp2_with fail
    go_loopw [6] (fun i wr => ∃ k : Nat, 1 ≤ k ∧ k ≤ n ∧ i = .int .i64 k ∧ Mk w w2.heap.size n (stepA (symA n pathR) k 0) wr) (fun i _ => n - (intOf i).toNat)
    case atStart => exact ⟨1, Nat.le_refl _, hn1, rfl, HM.out⟩
    case round =>
      obtain ⟨k, hk1, hk, rfl, hmid⟩ := hrel
      have HM4 := Lib.hid hmid
      clear hmid
      by_cases hlt : k < n
      · have dk : decide ((k : Int) < (n : Int)) = true := by simpa using hlt
        obtain ⟨k', rfl⟩ : ∃ k', k = k' + 1 := ⟨k - 1, by omega⟩
        obtain ⟨a6, cap6, kb6, hlk⟩ := HM4.out.link hs2 hn k' (k' + 1) (by omega) hlt (by omega)
        have HLK := Lib.hid hlk
        clear hlk
        go_wp2_with fail
        have eK : (((k' + 1 : Nat) : Int) - 1) = (k' : Int) := by omega
        first
          | refine HLK.out.mono ?_
          | (simp only [eK]; refine HLK.out.mono ?_)
        rintro e w7 ⟨rfl, kb7, kf7, hm7, _⟩
        have HM7 := Lib.hid (hm7.congr (path_next hlt))
        clear hm7
        go_wp2
        go_roundw
        case rel => exact ⟨k' + 1 + 1, by omega, by omega, by go_num, HM7.out⟩
        case measure => simp [intOf]; omega
      · obtain rfl : k = n := by omega
        obtain ⟨a8, cap8, kb8, k08, f08, q08, hp8⟩ := HM4.out.done hs2
        have HP := Lib.hid hp8
        have HQ := Lib.hid q08
        clear hp8 q08
        go_wp2
        refine bodyPost_ret (v := .tuple #[.agg #[.slice a8 k cap8], .bool true]) (by simp [results, Try.results38, go_sem, HQ.out]) rfl ?_
        rw [HG.out, HI.out, ← step_end]
        exact HP.out
  · have hin' : inB n 1 16 = false := by simpa using hin
    have HG : Hid (genL (inB n 1 16) n.toNat pathR = []) := by show _ = _; rw [hin', genL_no]
    have HI := Lib.hid hin'
    clear hin hin'
    go_enter Try.func38, Try.ntmps38
    go_wp2_with fail
    refine (l6Of_no n _ HI.out).mono ?_
    rintro e w2 ⟨rfl, hb2⟩
    have hs2 : w.heap.size < w2.heap.size := by have := hb2.size; rw [size_alloc1] at this; exact this
    have hbx := HBX0.out.keep hb2
    have HBE := Lib.hid (no_end none 0 0 hbx (HB0.out.trans (hb2.mono HB0.out.size)))
    have hst : Below w2.heap.size w2 (w2.alloc (.cells #[.slice none 0 0] 30)) := (Below.refl _ _).alloc (Nat.le_refl _) _
    have HK := Lib.hid (hbx.keep hst)
    have KG := Lib.hid (BoxT.new w2 (.slice none 0 0) 30).box.1
    clear hb2 hbx hst
    go_wp2_with fail
    go_loopw [6] (fun i wr => i = .int .i64 1 ∧ wr = (w2.alloc (.cells #[.slice none 0 0] 30))) (fun _ _ => 0)
    case atStart => exact ⟨rfl, rfl⟩
    case round =>
      obtain ⟨rfl, rfl⟩ := hrel
      have k1 := HK.out.1
      have k2 := HK.out.2
      have k3 := KG.out
      by_cases h1 : 1 < n
      · have dk : decide ((1 : Int) < n) = true := by simpa using h1
        go_wp2
        refine bodyPost_ret (v := .tuple #[.agg #[.slice none 0 0], .bool false]) (by simp [results, Try.results38, go_sem, HBE.out.1]) rfl ?_
        rw [HG.out, HI.out]
        exact GaveGB.no HBE.out.2
      · have dk : decide ((1 : Int) < n) = false := by simpa using h1
        go_wp2
        refine bodyPost_ret (v := .tuple #[.agg #[.slice none 0 0], .bool false]) (by simp [results, Try.results38, go_sem, HBE.out.1]) rfl ?_
        rw [HG.out, HI.out]
        exact GaveGB.no HBE.out.2

def loopR (n u v : Nat) : Bool := decide (v = u + 1) || decide (v = u + (n - 1))
theorem loop_link {n : Nat} (hn : 3 ≤ n) (i j : Nat) : linkA (symA n pathR) 0 (n - 1) i j = symA n (loopR n) i j := by
  refine symA_of (fun i j => ?_) (fun i => ?_) (fun i j h => ?_) (fun u v huv hv => ?_) i j
  · unfold linkA
    rw [symA_sym n pathR i j]
    have e1 : (i == 0 && j == n - 1) = (j == n - 1 && i == 0) := Bool.and_comm _ _
    have e2 : (i == n - 1 && j == 0) = (j == 0 && i == n - 1) := Bool.and_comm _ _
    rw [e1, e2]
    cases symA n pathR j i <;> cases (j == n - 1 && i == 0) <;> cases (j == 0 && i == n - 1) <;> rfl
  · unfold linkA
    rw [symA_self, Bool.false_or, Bool.or_eq_false_iff]
    constructor
    · cases h : (i == 0 && i == n - 1) with
      | false => rfl
      | true => simp at h; omega
    · cases h : (i == n - 1 && i == 0) with
      | false => rfl
      | true => simp at h; omega
  · unfold linkA at h
    simp only [Bool.or_eq_true, Bool.and_eq_true, beq_iff_eq] at h
    rcases h with (h | h) | h
    · exact symA_range h
    · omega
    · omega
  · unfold linkA loopR
    rw [symA_lt _ huv hv]
    unfold pathR
    rw [Bool.eq_iff_iff]
    simp only [Bool.or_eq_true, Bool.and_eq_true, beq_iff_eq, decide_eq_true_eq]
    omega

set_option maxHeartbeats 1600000 in
theorem specLoopGraph_any (n : Int) (w : World) : Calls Try.prog 42 #[.int .i64 n] w (GaveGB w (genL (inB n 3 16) n.toNat (loopR n.toNat)) (inB n 3 16)) := by
  have HB0 : Hid (Below w.heap.size w (w.alloc (.cells #[.slice none 0 0] 30))) := (Below.refl _ _).alloc (Nat.le_refl _) _
  have HBX0 : Hid (BoxAt (w.alloc (.cells #[.slice none 0 0] 30)) w.heap.size (.slice none 0 0)) := BoxAt.new _ _ _
  by_cases hin : inB n 1 16 = true
  · obtain ⟨n, rfl, hn1, hn⟩ := inB_nat hin (by omega)
    have hn1 : 1 ≤ n := by omega
    have hn : n ≤ 16 := by omega
    have HI := Lib.hid hin
    have HGP : Hid (genL (inB (n : Int) 1 16) (n : Int).toNat pathR = adjL n (symA n pathR)) := by show _ = _; rw [hin, genL_yes, Int.toNat_natCast]
    clear hin
    go_enter Try.func42, Try.ntmps42
    go_wp2_with fail
    refine (specPathGraph_any (n : Int) _).mono ?_
    rintro e w2 ⟨m2, a2, c2, rfl, ho2, hb2⟩
    rw [HGP.out, size_alloc1] at ho2
    rw [HI.out]
    obtain rfl : m2 = n := by
      obtain ⟨a3, c3, e3⟩ := ho2.grid.slice
      simp only [Value.slice.injEq, adjL_len] at e3
      exact e3.2.1
    have hs2 : w.heap.size < w2.heap.size := by have := hb2.size; rw [size_alloc1] at this; exact this
    have HBE := Lib.hid (no_end a2 m2 c2 (HBX0.out.keep hb2) (HB0.out.trans (hb2.mono HB0.out.size)))
    have hm := Mk.start (HBX0.out.keep hb2) ho2 (HB0.out.trans (hb2.mono HB0.out.size))
    have HM := Lib.hid hm
    clear ho2 hb2
    by_cases h3 : 3 ≤ m2
    · have d3 : decide ((m2 : Int) < 3) = false := by simp; omega
      have HG : Hid (genL (inB (m2 : Int) 3 16) (m2 : Int).toNat (loopR (m2 : Int).toNat) = adjL m2 (symA m2 (loopR m2))) := by
        show _ = _
        rw [(by simp [inB]; omega : inB (m2 : Int) 3 16 = true), genL_yes, Int.toNat_natCast]
      have HI3 : Hid (inB (m2 : Int) 3 16 = true) := by show _ = _; simp [inB]; omega
      obtain ⟨a6, cap6, kb6, hlk⟩ := hm.link hs2 hn 0 (m2 - 1) (by omega) (by omega) (by omega)
      have kb5 := (BoxT.new w2 (.slice a2 m2 c2) 30).box.1
      rw [kb5] at kb6
      simp only [Option.some.injEq, Value.slice.injEq, true_and] at kb6
      obtain ⟨rfl, rfl⟩ := kb6
      have en : ((m2 - 1 : Nat) : Int) = (m2 : Int) - 1 := by omega
      rw [en] at hlk
      have HLK := Lib.hid hlk
      clear hlk kb5 en hm
      go_wp2_with fail
      refine HLK.out.mono ?_
      rintro e w7 ⟨rfl, kb7, kf7, _, hm7⟩
      obtain ⟨a8, cap8, kb8, k08, f08, q08, hp8⟩ := hm7.done hs2
      rw [kb7] at kb8
      simp only [Option.some.injEq, Value.slice.injEq, true_and] at kb8
      obtain ⟨rfl, rfl⟩ := kb8
      have HP := Lib.hid hp8
      have HQ := Lib.hid q08
      clear hp8 q08 hm7 HLK HM
      go_wp2
      refine bodyPost_ret (v := .tuple #[.agg #[.slice a2 m2 c2], .bool true]) (by simp [results, Try.results42, go_sem, HQ.out]) rfl ?_
      rw [HG.out, HI3.out, ← adjL_congr (fun i _ j _ => loop_link h3 i j)]
      exact HP.out
    · have d3 : decide ((m2 : Int) < 3) = true := by simp; omega
      have HI3 : Hid (inB (m2 : Int) 3 16 = false) := by show _ = _; simp [inB]; omega
      have k1 := HM.out.res.1
      have k2 := HM.out.res.2
      clear hm
      go_wp2
      refine bodyPost_ret (v := .tuple #[.agg #[.slice none 0 0], .bool false]) (by simp [results, Try.results42, go_sem, HBE.out.1]) rfl ?_
      rw [HI3.out, genL_no]
      exact GaveGB.no HBE.out.2
  · have hin' : inB n 1 16 = false := by simpa using hin
    have HI3 : Hid (inB n 3 16 = false) := by
      show _ = _
      have : ¬ (1 ≤ n ∧ n ≤ 16) := by simpa [inB] using hin
      unfold inB
      rw [decide_eq_false_iff_not]; omega
    have HI := Lib.hid hin'
    clear hin hin'
    go_enter Try.func42, Try.ntmps42
    go_wp2_with fail
    refine (specPathGraph_any n _).mono ?_
    rintro e w2 ⟨m2, a2, c2, rfl, ho2, hb2⟩
    rw [HI.out]
    have hs2 : w.heap.size < w2.heap.size := by have := hb2.size; rw [size_alloc1] at this; exact this
    have hbx := HBX0.out.keep hb2
    have HBE := Lib.hid (no_end a2 m2 c2 hbx (HB0.out.trans (hb2.mono HB0.out.size)))
    have hst : Below w2.heap.size w2 (w2.alloc (.cells #[.slice a2 m2 c2] 30)) := (Below.refl _ _).alloc (Nat.le_refl _) _
    have k1 := (hbx.keep hst).1
    have k2 := (hbx.keep hst).2
    clear ho2 hb2 hbx hst
    go_wp2
    refine bodyPost_ret (v := .tuple #[.agg #[.slice none 0 0], .bool false]) (by simp [results, Try.results42, go_sem, HBE.out.1]) rfl ?_
    rw [HI3.out, genL_no]
    exact GaveGB.no HBE.out.2

end Go.Proofs.Ytojbaepcflkgeaa
