/- The texts CX6, CX7, joined. -/
import Derived.Test.YtohjfcfcopbmoaaGreatDoorQCX3
import Derived.Test.YtohjfcfcopbmoaaGreatDoorQX2

/- Plain facts: the model's search finds the least loop without a chord. -/
namespace Go.Proofs.YtohjfcfcopbmoaaGreatDoor
open Go.RowKit

/-- The search: R are the rows of the graph. -/
noncomputable def srF (A : Nat → Nat → Bool) (R : Nat → List Int) : Nat → List Int → List Int → List Int
  | 0, _, best => best
  | f + 1, path, best =>
    if best ≠ [] ∧ best.length ≤ path.length then best else
      (R (vtxN path (path.length - 1))).foldl (fun b z =>
        if z ≤ nth path 0 ∨ hasB path z = true then b
        else if nearC A path z.toNat = 1 then srF A R f (path ++ [z]) b
        else if nearC A path z.toNat = 2 ∧ 3 ≤ path.length ∧ A (vtxN path 0) z.toNat = true then betterR b (path ++ [z])
        else b) best
/-- One neighbour of the last. -/
noncomputable def srS (A : Nat → Nat → Bool) (R : Nat → List Int) (f : Nat) (path b : List Int) (z : Int) : List Int :=
  if z ≤ nth path 0 ∨ hasB path z = true then b
  else if nearC A path z.toNat = 1 then srF A R f (path ++ [z]) b
  else if nearC A path z.toNat = 2 ∧ 3 ≤ path.length ∧ A (vtxN path 0) z.toNat = true then betterR b (path ++ [z])
  else b
theorem srF_succ (A : Nat → Nat → Bool) (R : Nat → List Int) (f : Nat) (path best : List Int) : srF A R (f + 1) path best = if best ≠ [] ∧ best.length ≤ path.length then best else (R (vtxN path (path.length - 1))).foldl (srS A R f path) best := rfl

section
variable {A : Nat → Nat → Bool} (hs : ∀ i j, A i j = A j i) {R : Nat → List Int} (hR : ∀ a, a < 16 → ∀ z, z ∈ R a ↔ ∃ v : Nat, v < 16 ∧ A a v = true ∧ z = (v : Int))
include hs hR

theorem srF_seen : ∀ (f : Nat) (path best : List Int) (q0 : List Int → Prop), PathC A path → 17 ≤ path.length + f → SeenR (ChlP A) q0 best → SeenR (ChlP A) (fun ys => q0 ys ∨ ExtC A path ys) (srF A R f path best) := by
  intro f
  induction f with
  | zero =>
    intro path best q0 hp hf _
    have := hp.le
    omega
  | succ f ih =>
    intro path best q0 hp hf hb
    have hpos := hp.pos
    rw [srF_succ]
    by_cases hc : best ≠ [] ∧ best.length ≤ path.length
    · rw [if_pos hc]
      refine ⟨hb.1, fun ys hy => ?_⟩
      rcases hy with hy | hy
      · exact hb.2 ys hy
      · refine ⟨hc.1, ?_⟩
        have hlen : path.length < ys.length := by
          obtain ⟨v, _, _, h⟩ := ExtC.next hp hy
          have := h.len
          rw [List.length_append, List.length_singleton] at this
          omega
        rintro (g | ⟨g, _⟩) <;> omega
    · rw [if_neg hc]
      have hlast : vtxN path (path.length - 1) < 16 := hp.lt _ (by omega)
      have key : ∀ (zs : List Int), (∀ z ∈ zs, z ∈ R (vtxN path (path.length - 1))) → ∀ (q : List Int → Prop) (b : List Int), SeenR (ChlP A) q b → SeenR (ChlP A) (fun ys => q ys ∨ ∃ z ∈ zs, ExtC A (path ++ [z]) ys) (zs.foldl (srS A R f path) b) := by
        intro zs
        induction zs with
        | nil =>
          intro _ q b hb
          refine hb.imp (fun ys hy => ?_)
          rcases hy with hy | ⟨z, hz, _⟩
          · exact hy
          · exact absurd hz (by simp)
        | cons z zs ihz =>
          intro hzs q b hb
          obtain ⟨v, hv, hav, rfl⟩ := (hR _ hlast z).1 (hzs z (by simp))
          have hone : SeenR (ChlP A) (fun ys => q ys ∨ ExtC A (path ++ [(v : Int)]) ys) (srS A R f path b (v : Int)) := by
            have hno : (∀ ys, ¬ ExtC A (path ++ [(v : Int)]) ys) → SeenR (ChlP A) (fun ys => q ys ∨ ExtC A (path ++ [(v : Int)]) ys) b := fun h => hb.imp (fun ys hy => by
              rcases hy with hy | hy
              · exact hy
              · exact absurd hy (h ys))
            unfold srS
            rw [Int.toNat_natCast]
            by_cases c0 : (v : Int) ≤ nth path 0 ∨ hasB path (v : Int) = true
            · rw [if_pos c0]
              refine hno (fun ys hy => ?_)
              obtain ⟨h1, h2, _⟩ := ExtC.which hs hp hy
              rcases c0 with g | g
              · rw [hp.at_ 0 hpos] at g; omega
              · obtain ⟨i, hi, e⟩ := List.getElem_of_mem ((hasB_mem _ _).1 g)
                rw [← nth_eq hi, hp.at_ i hi] at e
                exact h2 i hi (by omega)
            · rw [if_neg c0]
              have h0 : vtxN path 0 < v := by
                rcases Nat.lt_or_ge (vtxN path 0) v with g | g
                · exact g
                · exact absurd (Or.inl (by rw [hp.at_ 0 hpos]; omega)) c0
              have hm : ∀ i, i < path.length → vtxN path i ≠ v := fun i hi e => c0 (Or.inr (by
                rw [hasB_mem, ← e, ← hp.at_ i hi]; exact nth_mem hi))
              by_cases c1 : nearC A path v = 1
              · rw [if_pos c1]
                have hp' := PathC.snoc hp hav hv c1 h0 hm
                exact ih (path ++ [(v : Int)]) b q hp' (by rw [List.length_append, List.length_singleton]; omega) hb
              · rw [if_neg c1]
                by_cases c2 : nearC A path v = 2 ∧ 3 ≤ path.length ∧ A (vtxN path 0) v = true
                · rw [if_pos c2]
                  have hc := PathC.close hp c2.2.1 hav c2.2.2 hv c2.1 hm
                  have h1 : SeenR (ChlP A) (fun ys => ys = path ++ [(v : Int)]) (path ++ [(v : Int)]) := ⟨Or.inr hc, fun ys hy => ⟨hc.ne_nil, by rw [hy]; exact ltR_irrefl _⟩⟩
                  refine (hb.better h1).imp (fun ys hy => ?_)
                  rcases hy with hy | hy
                  · exact Or.inl hy
                  · obtain ⟨_, _, _, g | g⟩ := ExtC.which hs hp hy
                    · exact absurd g c1
                    · exact Or.inr g.2.2.2
                · rw [if_neg c2]
                  refine hno (fun ys hy => ?_)
                  obtain ⟨_, _, _, g | g⟩ := ExtC.which hs hp hy
                  · exact c1 g
                  · exact c2 ⟨g.1, g.2.1, g.2.2.1⟩
          rw [List.foldl_cons]
          refine (ihz (fun z hz => hzs z (by simp [hz])) _ _ hone).imp (fun ys hy => ?_)
          rcases hy with hy | ⟨z', hz', hy⟩
          · exact Or.inl (Or.inl hy)
          · rcases List.mem_cons.1 hz' with e | e
            · subst e; exact Or.inl (Or.inr hy)
            · exact Or.inr ⟨z', e, hy⟩
      refine (key _ (fun z hz => hz) q0 best hb).imp (fun ys hy => ?_)
      rcases hy with hy | hy
      · exact Or.inl hy
      · obtain ⟨v, hv, hav, h⟩ := ExtC.next hp hy
        exact Or.inr ⟨(v : Int), (hR _ hlast _).2 ⟨v, hv, hav, rfl⟩, h⟩
/-- What the search has found from the first k vertices. -/
noncomputable def srTo (A : Nat → Nat → Bool) (R : Nat → List Int) : Nat → List Int
  | 0 => []
  | k + 1 => srF A R 16 [(k : Int)] (srTo A R k)
theorem srTo_seen : ∀ k : Nat, k ≤ 16 → SeenR (ChlP A) (fun ys => ∃ s, s < k ∧ ExtC A [(s : Int)] ys) (srTo A R k) := by
  intro k
  induction k with
  | zero => intro _; exact SeenR.zero.imp (fun ys hy => by obtain ⟨s, hs, _⟩ := hy; omega)
  | succ k ih =>
    intro hk
    refine (srF_seen hs hR 16 [(k : Int)] _ _ (PathC.one (by omega)) (by simp) (ih (by omega))).imp (fun ys hy => ?_)
    obtain ⟨s, h1, h2⟩ := hy
    by_cases e : s = k
    · subst e; exact Or.inr h2
    · exact Or.inl ⟨s, by omega, h2⟩
/-- The model's answer. -/
theorem srTo_cls {n : Nat} (hA : RelP n A) (hn : n ≤ 16) : srTo A R n = clsL A := by
  refine (clsL_of ((srTo_seen hs hR n hn).more (fun ys hy => ?_))).symm
  obtain ⟨zs, ⟨hz, hl⟩, hlt⟩ := hy.first hs
  have h4 := hz.four
  refine ⟨zs, ⟨vtxN zs 0, (hA.range _ _ (hz.loop.step 0 (by omega))).1, hz, hl, by simp; omega, fun i hi => ?_⟩, hlt⟩
  obtain rfl : i = 0 := by simpa using hi
  rw [hz.loop.at_ 0 (by omega)]
  rfl
end

end Go.Proofs.YtohjfcfcopbmoaaGreatDoor

/- Plain facts: the least of the ways round all bends is the least loop without a chord. -/
namespace Go.Proofs.YtohjfcfcopbmoaaGreatDoor
open Go.RowKit

/-- Where a loop with a bend may go on, as a mask. -/
def bendK (M : Nat → Nat) (n u v w : Nat) : Nat := clrM (clrM (2 ^ n - 1) (M u)) (2 ^ u) ||| 2 ^ v ||| 2 ^ w
/-- The masks inside a mask. -/
def insM (M : Nat → Nat) (K i : Nat) : Nat := if K.testBit i then M i &&& K else 0
theorem insM_lt {M : Nat → Nat} (hM : ∀ i, M i < 65536) (K i : Nat) : insM M K i < 65536 := by
  unfold insM
  split
  · exact Nat.lt_of_le_of_lt Nat.and_le_left (hM i)
  · omega
theorem insM_near (M : Nat → Nat) (K a b : Nat) : nearM (insM M K) a b = (nearM M a b && K.testBit a && K.testBit b) := by
  unfold nearM insM
  split
  · rename_i h
    rw [Nat.testBit_and, h, Bool.and_true]
  · rename_i h
    have : K.testBit a = false := by simpa using h
    rw [this, Nat.zero_testBit]; simp
theorem bendK_bit {M : Nat → Nat} {n u v w : Nat} (hM : ∀ i, M i < 65536) (hn : n ≤ 16) (hu : u < n) (t : Nat) : (bendK M n u v w).testBit t = bendS (nearM M) n u v w t := by
  have h1 : 2 ^ n - 1 < 65536 := by
    have := Nat.pow_le_pow_right (show 0 < 2 by omega) hn
    omega
  have h2 : 2 ^ u < 65536 := by
    have := Nat.pow_lt_pow_right (show 1 < 2 by omega) (show u < 16 by omega)
    omega
  unfold bendK bendS nearM
  rw [Nat.testBit_or, Nat.testBit_or, clrM_bit (clrM_lt _ h1) h2, clrM_bit h1 (hM u), Nat.testBit_two_pow_sub_one, Nat.testBit_two_pow, Nat.testBit_two_pow, Nat.testBit_two_pow]
  have e : ∀ a b : Nat, decide (a = b) = (b == a) := fun a b => by
    by_cases c : a = b
    · subst c; simp
    · have : (b == a) = false := by rw [beq_eq_false_iff_ne]; omega
      rw [decide_eq_false c, this]
  rw [e u t, e v t, e w t]
  rfl
theorem ins_bend {M : Nat → Nat} {n u v w : Nat} (hM : ∀ i, M i < 65536) (hn : n ≤ 16) (hu : u < n) (a b : Nat) : nearM (insM M (bendK M n u v w)) a b = (nearM M a b && bendS (nearM M) n u v w a && bendS (nearM M) n u v w b) := by
  rw [insM_near, bendK_bit hM hn hu, bendK_bit hM hn hu]

/-- The way round one bend is the least loop with it. -/
theorem bend_seen {M : Nat → Nat} {n u v w : Nat} {c : List Int} (hA : RelP n (nearM M)) (hM : ∀ i, M i < 65536) (hn : n ≤ 16) (hb : Bend (nearM M) u v w) {T : Nat → Bool} (hT : ∀ t, T t = true ↔ t < n)
    (hc : (c = [] ∧ ∀ d, ¬ AtD (nearM (insM M (bendK M n u v w))) T w d v) ∨ ∃ d, AtD (nearM (insM M (bendK M n u v w))) T w d v ∧ c = (u : Int) :: wayD (insM M (bendK M n u v w)) (ringN (nearM (insM M (bendK M n u v w))) T w) d v d) :
    SeenR (ChlP (nearM M)) (fun ys => ChlP (nearM M) ys ∧ vtxN ys 0 = u ∧ vtxN ys 1 = v ∧ vtxN ys (ys.length - 1) = w) c := by
  have hu := (hA.range u v hb.left).1
  have hB := ins_bend (M := M) (v := v) (w := w) hM hn hu
  rcases hc with ⟨e, hno⟩ | ⟨d, hd, e⟩
  · subst e
    refine ⟨Or.inl rfl, fun ys hy => ?_⟩
    obtain ⟨d, _, h⟩ := bend_at hA hB hT hb hy.1 hy.2.1 hy.2.2.1 hy.2.2.2
    exact absurd h (hno d)
  · subst e
    have hl := bend_loop hA hn hB hT hb (insM_lt hM _) (fun _ _ => rfl) hd
    exact ⟨Or.inr hl, fun ys hy => ⟨hl.ne_nil, bend_least hA hn hB hT hb (insM_lt hM _) (fun _ _ => rfl) hd hy.1 hy.2.1 hy.2.2.1 hy.2.2.2⟩⟩
/-- All bends: what has been found. -/
theorem bends_seen {M : Nat → Nat} {n : Nat} {Z : List (Nat × Nat × Nat)} {c : Nat × Nat × Nat → List Int} {T : Nat → Bool} (hA : RelP n (nearM M)) (hM : ∀ i, M i < 65536) (hn : n ≤ 16) (hT : ∀ t, T t = true ↔ t < n)
    (hZ : ∀ t, t ∈ Z ↔ Bend (nearM M) t.1 t.2.1 t.2.2)
    (hc : ∀ t ∈ Z, (c t = [] ∧ ∀ d, ¬ AtD (nearM (insM M (bendK M n t.1 t.2.1 t.2.2))) T t.2.2 d t.2.1) ∨ ∃ d, AtD (nearM (insM M (bendK M n t.1 t.2.1 t.2.2))) T t.2.2 d t.2.1 ∧ c t = (t.1 : Int) :: wayD (insM M (bendK M n t.1 t.2.1 t.2.2)) (ringN (nearM (insM M (bendK M n t.1 t.2.1 t.2.2))) T t.2.2) d t.2.1 d) :
    SeenR (ChlP (nearM M)) (ChlP (nearM M)) (Z.foldl (fun b t => betterR b (c t)) []) := by
  have h1 := seen_fold (p := ChlP (nearM M)) (q := fun (t : Nat × Nat × Nat) ys => ChlP (nearM M) ys ∧ vtxN ys 0 = t.1 ∧ vtxN ys 1 = t.2.1 ∧ vtxN ys (ys.length - 1) = t.2.2) (c := c) Z
    (fun t ht => bend_seen hA hM hn ((hZ t).1 ht) hT (hc t ht)) SeenR.zero
  refine h1.more (fun ys hy => ?_)
  obtain ⟨zs, ⟨hz, hlt⟩, hn⟩ := hy.bent hA.sym
  have h4 := hz.four
  refine ⟨zs, Or.inr ⟨(vtxN zs 0, vtxN zs 1, vtxN zs (zs.length - 1)), (hZ _).2 ⟨hz.loop.step 0 (by omega), hz.loop.close, ?_, hlt⟩, hz, rfl, rfl, rfl⟩, hn⟩
  exact hz.far hA.sym (by omega) (by omega) (by omega) (by unfold nxt; omega)
/-- All bends: the program's answer. -/
theorem bends_cls {M : Nat → Nat} {n : Nat} {Z : List (Nat × Nat × Nat)} {c : Nat × Nat × Nat → List Int} {T : Nat → Bool} (hA : RelP n (nearM M)) (hM : ∀ i, M i < 65536) (hn : n ≤ 16) (hT : ∀ t, T t = true ↔ t < n)
    (hZ : ∀ t, t ∈ Z ↔ Bend (nearM M) t.1 t.2.1 t.2.2)
    (hc : ∀ t ∈ Z, (c t = [] ∧ ∀ d, ¬ AtD (nearM (insM M (bendK M n t.1 t.2.1 t.2.2))) T t.2.2 d t.2.1) ∨ ∃ d, AtD (nearM (insM M (bendK M n t.1 t.2.1 t.2.2))) T t.2.2 d t.2.1 ∧ c t = (t.1 : Int) :: wayD (insM M (bendK M n t.1 t.2.1 t.2.2)) (ringN (nearM (insM M (bendK M n t.1 t.2.1 t.2.2))) T t.2.2) d t.2.1 d) :
    Z.foldl (fun b t => betterR b (c t)) [] = clsL (nearM M) :=
  (clsL_of (bends_seen hA hM hn hT hZ hc)).symm

end Go.Proofs.YtohjfcfcopbmoaaGreatDoor
