/- The texts RF1, CF1, joined. -/
import Derived.Test.YtgeifbgjfbfcfaaQS4
import Derived.Test.YtgeifbgjfbfcfaaQEM3
import Derived.Test.YtgeifbgjfbfcfaaQM4
import Derived.Test.YtgeifbgjfbfcfaaQLater
import Derived.Test.YtgeifbgjfbfcfaaQM9
import Derived.Test.YtgeifbgjfbfcfaaQCP1

/- Plain facts: orders, and the orders back. -/
namespace Go.Proofs.Ytgeifbgjfbfcfaa

/-- The numbers below m, each once. -/
def PermP (xs : List Int) (m : Nat) : Prop := xs.length = m ∧ (∀ i, i < m → 0 ≤ nth xs i ∧ nth xs i < (m : Int)) ∧ ∀ i j, i < j → j < m → nth xs i ≠ nth xs j
theorem PermP.ord {xs : List Int} {m : Nat} (h : PermP xs m) : OrdP xs m := by
  refine ⟨h.1, fun k hk => ?_⟩
  rw [h.1] at hk
  refine ⟨?_, ?_⟩
  · have := h.2.1 k hk; unfold inB; rw [decide_eq_true_iff]; omega
  · rw [← Bool.not_eq_true, hasB_take (by rw [h.1]; omega)]
    rintro ⟨j, hj, e⟩
    exact h.2.2 j k hj hk e
theorem PermP.nodup {xs : List Int} {n : Nat} (h : PermP xs n) : xs.Nodup := by
  rw [List.nodup_iff_pairwise_ne, List.pairwise_iff_getElem]
  intro i j hi hj hij e
  have := h.1
  exact h.2.2 i j hij (by omega) (by rw [nth_eq hi, nth_eq hj]; exact e)
theorem PermP.onto {xs : List Int} {n : Nat} (h : PermP xs n) {v : Nat} (hv : v < n) : ∃ j, j < n ∧ nth xs j = (v : Int) := by
  rcases Classical.em (∃ j, j < n ∧ nth xs j = (v : Int)) with hx | hx
  · exact hx
  · exfalso
    have hnm : (v : Int) ∉ xs := fun hm => by
      obtain ⟨j, hj, e⟩ := List.getElem_of_mem hm
      exact hx ⟨j, by have := h.1; omega, by rw [nth_eq hj]; exact e⟩
    have hnd : ((v : Int) :: xs).Nodup := List.nodup_cons.2 ⟨hnm, h.nodup⟩
    have := hnd.length_le_of_subset (l₂ := (List.range n).map (fun i : Nat => (i : Int))) (fun x hxx => by
      rw [List.mem_map]
      rcases List.mem_cons.1 hxx with e | hm
      · exact ⟨v, by rw [List.mem_range]; exact hv, e.symm⟩
      · obtain ⟨j, hj, e⟩ := List.getElem_of_mem hm
        have := h.2.1 j (by have := h.1; omega)
        rw [nth_eq hj, e] at this
        exact ⟨x.toNat, by rw [List.mem_range]; omega, by omega⟩)
    simp at this
    have := h.1
    omega
/-- ys leads back, as far as the first k. -/
def BackP (xs ys : List Int) (n k : Nat) : Prop := ys.length = n ∧ ∀ i, i < k → nth ys (nth xs i).toNat = (i : Int)
theorem BackP.step {xs ys : List Int} {n k : Nat} (h : PermP xs n) (hb : BackP xs ys n k) (hk : k < n) : BackP xs (ys.set (nth xs k).toNat (k : Int)) n (k + 1) := by
  refine ⟨by rw [List.length_set]; exact hb.1, fun i hi => ?_⟩
  have hxk := h.2.1 k hk
  have hxi := h.2.1 i (by omega)
  by_cases e : i = k
  · subst e; rw [nth_set_same (by rw [hb.1]; omega)]
  · rw [nth_set_other (fun e2 => h.2.2 i k (by omega) hk (by omega))]
    exact hb.2 i (by omega)
theorem BackP.perm {xs ys : List Int} {n : Nat} (h : PermP xs n) (hb : BackP xs ys n n) : PermP ys n := by
  refine ⟨hb.1, fun v hv => ?_, fun v u hvu hu => ?_⟩
  · obtain ⟨j, hj, e⟩ := h.onto hv
    have := hb.2 j hj
    rw [e, Int.toNat_natCast] at this
    omega
  · obtain ⟨j, hj, e⟩ := h.onto (show v < n by omega)
    obtain ⟨i, hi, e2⟩ := h.onto hu
    have a := hb.2 j hj
    have b := hb.2 i hi
    rw [e, Int.toNat_natCast] at a
    rw [e2, Int.toNat_natCast] at b
    intro e3
    have : j = i := by omega
    subst this
    omega
theorem BackP.there {xs ys : List Int} {n : Nat} (h : PermP xs n) (hb : BackP xs ys n n) {v : Nat} (hv : v < n) : nth xs (nth ys v).toNat = (v : Int) := by
  obtain ⟨j, hj, e⟩ := h.onto hv
  have := hb.2 j hj
  rw [e, Int.toNat_natCast] at this
  rw [this, Int.toNat_natCast]
  exact e
theorem ord_true {L : List (List Int)} {xs : List Int} (hG : GraphP L) (h : PermP xs L.length) : orderB L xs = true := by
  unfold orderB
  rw [decide_eq_true hG, decide_eq_true h.ord]
  rfl
theorem ren_graph {L : List (List Int)} {xs : List Int} (hG : GraphP L) (h : PermP xs L.length) : GraphP (adjL xs.length (pickA L xs)) ∧ (adjL xs.length (pickA L xs)).length = L.length := by
  have hz := hG.1
  have := h.1
  exact ⟨pick_graph hG (by omega) (by omega), by rw [adjL_len]; exact h.1⟩
theorem ren_near {L : List (List Int)} {xs : List Int} (hG : GraphP L) (h : PermP xs L.length) {i j : Nat} (hi : i < L.length) (hj : j < L.length) : adjB (adjL xs.length (pickA L xs)) i j = adjB L (nth xs i).toNat (nth xs j).toNat := by
  have hz := hG.1
  have hl := h.1
  rw [adjB_adjL (ren_graph hG h).1 (by omega) (by omega)]
  unfold pickA
  rw [decide_eq_true (by omega), decide_eq_true (by omega)]
  rfl
theorem ren_back {L : List (List Int)} {xs ys : List Int} (hG : GraphP L) (h : PermP xs L.length) (hb : BackP xs ys L.length L.length) : adjL ys.length (pickA (adjL xs.length (pickA L xs)) ys) = L := by
  have hz := hG.1
  have hp := hb.perm h
  have hg := ren_graph hG h
  have hy := hp.1
  conv => rhs; rw [← graph_adjL hG]
  rw [hy]
  refine adjL_congr (fun i hi j hj => ?_)
  show (decide (i < ys.length) && decide (j < ys.length) && adjB (adjL xs.length (pickA L xs)) (nth ys i).toNat (nth ys j).toNat) = adjB L i j
  rw [decide_eq_true (p := i < ys.length) (by omega), Bool.true_and]
  by_cases hjl : j < L.length
  · rw [decide_eq_true (p := j < ys.length) (by omega), Bool.true_and]
    have a := hp.2.1 i hi
    have b := hp.2.1 j hjl
    rw [ren_near hG h (by omega) (by omega), hb.there h hi, hb.there h hjl, Int.toNat_natCast, Int.toNat_natCast]
  · rw [decide_eq_false (p := j < ys.length) (by omega), Bool.false_and]
    symm
    rw [← Bool.not_eq_true]
    intro hh
    exact hjl (adjB_range hG hh).2
theorem ren_alike {L : List (List Int)} {xs : List Int} (hG : GraphP L) (h8 : L.length ≤ 8) (h : PermP xs L.length) : alB L (adjL xs.length (pickA L xs)) = true := by
  have hz := hG.1
  obtain ⟨hg, hl⟩ := ren_graph hG h
  unfold alB
  rw [decide_eq_true_iff]
  refine ⟨⟨hG, h8⟩, ⟨hg, by omega⟩, hl.symm, fun e => ?_⟩
  have : xs ∈ stands (adjL xs.length (pickA L xs)) L := by
    unfold stands
    rw [fits_mem hz.2]
    refine ⟨by rw [hl]; exact h.1, fun i hi => ?_⟩
    rw [hl] at hi
    have a := h.2.1 i hi
    refine ⟨a.1, a.2, fun j hj => h.2.2 j i hj hi, fun j hj => ?_⟩
    exact ren_near hG h (by omega) hi
  rw [e] at this
  simp at this
theorem back_of {xs : List Int} {n : Nat} (h : PermP xs n) : ∃ ys, BackP xs ys n n := by
  have : ∀ k, k ≤ n → ∃ ys, BackP xs ys n k := by
    intro k
    induction k with
    | zero => intro _; exact ⟨List.replicate n 0, by simp, fun i hi => absurd hi (by omega)⟩
    | succ k ih =>
      intro hk
      obtain ⟨ys, hy⟩ := ih (by omega)
      exact ⟨_, hy.step h (by omega)⟩
  exact this n (Nat.le_refl _)

end Go.Proofs.Ytgeifbgjfbfcfaa

/- Plain facts: two small graphs are alike just where their canonical graphs are one. -/
namespace Go.Proofs.Ytgeifbgjfbfcfaa
open Go.RowKit

theorem flagI_inj {a b : Bool} (h : flagI a = flagI b) : a = b := by cases a <;> cases b <;> simp [flagI] at h ⊢
theorem code_near {A A' : Nat → Nat → Bool} {xs ys : List Int} (hl : xs.length = ys.length) : ∀ k, k ≤ xs.length → codeTo A xs k = codeTo A' ys k → ∀ j i, j < i → i < k → A (nth xs j).toNat (nth xs i).toNat = A' (nth ys j).toNat (nth ys i).toNat := by
  intro k
  induction k with
  | zero => intro _ _ j i _ hi; omega
  | succ k ih =>
    intro hk h j i hji hi
    rw [codeTo, codeTo] at h
    obtain ⟨h1, h2⟩ := List.append_inj h (by rw [codeTo_tri A xs (by omega), codeTo_tri A' ys (by omega)])
    by_cases e : i < k
    · exact ih (by omega) h1 j i hji e
    · obtain rfl : i = k := by omega
      have a := codeRow_nth (A := A) (xs := xs) (v := nth xs i) (k := i) (i := j) (by omega) hji
      have b := codeRow_nth (A := A') (xs := ys) (v := nth ys i) (k := i) (i := j) (by omega) hji
      rw [h2, b] at a
      exact (flagI_inj a).symm
/-- A list through another. -/
def thrL (z xs : List Int) : List Int := xs.map (fun v => nth z v.toNat)
theorem thrL_len (z xs : List Int) : (thrL z xs).length = xs.length := by simp [thrL]
theorem thrL_nth {z xs : List Int} {i : Nat} (h : i < xs.length) : nth (thrL z xs) i = nth z (nth xs i).toNat := by
  rw [nth_eq (by rw [thrL_len]; exact h)]
  simp [thrL, nth_eq h]
theorem thr_code {A A' : Nat → Nat → Bool} {n : Nat} {xs z : List Int} (hx : ∀ i, i < xs.length → 0 ≤ nth xs i ∧ nth xs i < (n : Int)) (hz : ∀ i j, i < n → j < n → A i j = A' (nth z i).toNat (nth z j).toNat) : codeA A xs = codeA A' (thrL z xs) := by
  have : ∀ k, k ≤ xs.length → codeTo A xs k = codeTo A' (thrL z xs) k := by
    intro k
    induction k with
    | zero => intro _; rfl
    | succ k ih =>
      intro hk
      rw [codeTo, codeTo, ih (by omega)]
      congr 1
      have l1 : (codeRow A xs (nth xs k) k).length = k := codeRow_len' A _ (by omega)
      have l2 : (codeRow A' (thrL z xs) (nth (thrL z xs) k) k).length = k := codeRow_len' A' _ (by rw [thrL_len]; omega)
      refine nth_ext (by rw [l1, l2]) (fun i hi => ?_)
      rw [l1] at hi
      rw [codeRow_nth (by omega) hi, codeRow_nth (by rw [thrL_len]; omega) hi, thrL_nth (by omega), thrL_nth (by omega)]
      have a := hx i (by omega)
      have b := hx k (by omega)
      rw [hz _ _ (by omega) (by omega)]
  unfold codeA
  rw [thrL_len]
  exact this _ (Nat.le_refl _)
theorem thr_dist {n : Nat} {z xs : List Int} (hz : PermP z n) (h : DistP n xs) : DistP n (thrL z xs) := by
  refine ⟨fun i hi => ?_, fun i j hij hj => ?_⟩
  · rw [thrL_len] at hi
    rw [thrL_nth hi]
    have := h.1 i hi
    exact hz.2.1 _ (by omega)
  · rw [thrL_len] at hj
    rw [thrL_nth (by omega), thrL_nth hj]
    have a := h.1 i (by omega)
    have b := h.1 j hj
    have c := h.2 i j hij hj
    rcases Nat.lt_trichotomy (nth xs i).toNat (nth xs j).toNat with e | e | e
    · exact hz.2.2 _ _ e (by omega)
    · omega
    · exact fun h => hz.2.2 _ _ e (by omega) h.symm
theorem dist_perm {n : Nat} {xs : List Int} (h : DistP n xs) (hl : xs.length = n) : PermP xs n := ⟨hl, fun i hi => h.1 i (by omega), fun i j hij hj => h.2 i j hij (by omega)⟩
theorem canR_perm {L : List (List Int)} (h : SmallP L) : PermP (canR L) L.length := by
  refine dist_perm ?_ (canR_len h)
  unfold canR
  rw [if_pos h]
  exact (canL_is _ _).1.1
theorem canG_is {L : List (List Int)} (h : SmallP L) : canG L = adjL (canR L).length (pickA L (canR L)) := by unfold canG pickL; rw [if_pos (decide_eq_true h)]
theorem canG_no {L : List (List Int)} (h : ¬ SmallP L) : canG L = [] := by unfold canG pickL; rw [decide_eq_false h]; rfl
theorem canG_graph {L : List (List Int)} (h : SmallP L) : GraphP (canG L) ∧ (canG L).length = L.length := by
  rw [canG_is h]
  exact ren_graph h.1 (canR_perm h)
theorem canR_min {L : List (List Int)} (h : SmallP L) : MinP (adjB L) L.length L.length (canR L) := by
  unfold canR
  rw [if_pos h]
  exact (canL_is _ _).1
theorem alike_iff {La Lb : List (List Int)} (ha : SmallP La) (hb : SmallP Lb) : alB La Lb = true ↔ canG La = canG Lb := by
  have za := ha.1.1
  have zb := hb.1.1
  have pa := canR_perm ha
  have pb := canR_perm hb
  constructor
  · intro h
    unfold alB at h
    rw [decide_eq_true_iff] at h
    obtain ⟨_, _, hl, hne⟩ := h
    obtain ⟨z, hz⟩ := List.exists_mem_of_ne_nil _ hne
    unfold stands at hz
    rw [fits_mem za.2] at hz
    obtain ⟨hzl, hz⟩ := hz
    have pz : PermP z Lb.length := ⟨hzl, fun i hi => ⟨(hz i hi).1, by have := (hz i hi).2.1; omega⟩, fun i j hij hj => (hz j hj).2.2.1 i hij⟩
    have near : ∀ i j, i < Lb.length → j < Lb.length → adjB Lb i j = adjB La (nth z i).toNat (nth z j).toNat := by
      intro i j hi hj
      rcases Nat.lt_trichotomy i j with e | e | e
      · exact (hz j hj).2.2.2 i e
      · subst e; rw [adjB_self hb.1, adjB_self ha.1]
      · rw [adjB_sym hb.1, adjB_sym ha.1]; exact (hz i hi).2.2.2 j e
    obtain ⟨y, hy⟩ := back_of pz
    have py := hy.perm pz
    have near2 : ∀ i j, i < Lb.length → j < Lb.length → adjB La i j = adjB Lb (nth y i).toNat (nth y j).toNat := by
      intro i j hi hj
      have a := py.2.1 i hi
      have b := py.2.1 j hj
      rw [near _ _ (by omega) (by omega), hy.there pz hi, hy.there pz hj, Int.toNat_natCast, Int.toNat_natCast]
    have ma := canR_min ha
    have mb := canR_min hb
    rw [hl] at ma pa
    have c1 : codeA (adjB Lb) (canR Lb) = codeA (adjB La) (thrL z (canR Lb)) := thr_code mb.1.1 near
    have c2 : codeA (adjB La) (canR La) = codeA (adjB Lb) (thrL y (canR La)) := thr_code ma.1.1 near2
    have d1 := ma.2.2 (thrL z (canR Lb)) (thr_dist pz mb.1) (by rw [thrL_len]; exact mb.2.1)
    have d2 := mb.2.2 (thrL y (canR La)) (thr_dist py ma.1) (by rw [thrL_len]; exact ma.2.1)
    rw [← c1] at d1
    rw [← c2] at d2
    have hc : codeA (adjB La) (canR La) = codeA (adjB Lb) (canR Lb) := by
      rcases lex_total (triN Lb.length) (a := codeA (adjB La) (canR La)) (b := codeA (adjB Lb) (canR Lb)) (by rw [codeA_len, ma.2.1]) (by rw [codeA_len, mb.2.1]) with e | e | e
      · exact absurd e d2
      · exact e
      · exact absurd e d1
    have hrl : (canR La).length = (canR Lb).length := by rw [ma.2.1, mb.2.1]
    have hn := code_near (A := adjB La) (A' := adjB Lb) hrl (canR La).length (Nat.le_refl _) (by unfold codeA at hc; rw [hrl] at hc ⊢; exact hc)
    rw [canG_is ha, canG_is hb, hrl]
    refine adjL_congr (fun i hi j hj => ?_)
    unfold pickA
    rw [hrl]
    by_cases hj' : j < (canR Lb).length
    · simp only [decide_eq_true hi, decide_eq_true hj', Bool.true_and]
      rcases Nat.lt_trichotomy i j with e | e | e
      · exact hn i j e (by omega)
      · subst e; rw [adjB_self ha.1, adjB_self hb.1]
      · rw [adjB_sym ha.1, adjB_sym hb.1]; exact hn j i e (by omega)
    · simp only [decide_eq_false hj', Bool.and_false, Bool.false_and]
  · intro h
    have ga := canG_graph ha
    have gb := canG_graph hb
    have hl : La.length = Lb.length := by rw [← ga.2, ← gb.2, h]
    rw [hl] at pa
    unfold alB
    rw [decide_eq_true_iff]
    refine ⟨ha, hb, hl, fun e => ?_⟩
    obtain ⟨y, hy⟩ := back_of pb
    have py := hy.perm pb
    have pal : PermP (canR La) La.length := canR_perm ha
    have near : ∀ i j, i < Lb.length → j < Lb.length → adjB La (nth (canR La) i).toNat (nth (canR La) j).toNat = adjB Lb (nth (canR Lb) i).toNat (nth (canR Lb) j).toNat := by
      intro i j hi hj
      have a := ren_near ha.1 pal (i := i) (j := j) (by omega) (by omega)
      have b := ren_near hb.1 pb (i := i) (j := j) hi hj
      rw [← canG_is ha] at a
      rw [← canG_is hb] at b
      rw [← a, ← b, h]
    have : thrL (canR La) y ∈ stands Lb La := by
      unfold stands
      rw [fits_mem za.2]
      refine ⟨by rw [thrL_len]; exact py.1, fun i hi => ?_⟩
      have a := py.2.1 i hi
      have yl := py.1
      rw [thrL_nth (by omega)]
      have b := pa.2.1 (nth y i).toNat (by omega)
      refine ⟨b.1, by omega, fun j hj => ?_, fun j hj => ?_⟩
      · rw [thrL_nth (by omega)]
        have c := py.2.1 j (by omega)
        have d := py.2.2 j i hj hi
        rcases Nat.lt_trichotomy (nth y j).toNat (nth y i).toNat with e | e | e
        · exact pa.2.2 _ _ e (by omega)
        · omega
        · exact fun h => pa.2.2 _ _ e (by omega) h.symm
      · rw [thrL_nth (by omega)]
        have c := py.2.1 j (by omega)
        rw [near _ _ (by omega) (by omega), hy.there pb (by omega), hy.there pb hi, Int.toNat_natCast, Int.toNat_natCast]
    rw [e] at this
    simp at this

end Go.Proofs.Ytgeifbgjfbfcfaa
