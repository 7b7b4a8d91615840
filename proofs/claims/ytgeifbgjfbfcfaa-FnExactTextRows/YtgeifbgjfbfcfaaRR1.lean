/- A region that reads and then writes once, in a round of a loop over an iterator: as outside of it. No statement of the program. -/
import Derived.Test.YtgeifbgjfbfcfaaX1
import Derived.StillTailTactics
import Derived.OwnWalkIn
import Derived.RangeFuncCalls

namespace Go.Proofs.Ytgeifbgjfbfcfaa
open Go.RowKit

section
variable {n : Nat} {P : Program} {ops : Array Oper}
/-- No operation of the region defers. -/
def Plainly (ops : Array Oper) : Bool := ops.all fun o => match o.op with | .defer _ => false | _ => true
theorem plainly_at (h : Plainly ops = true) {i : Nat} {o : Oper} (ho : ops[i]? = some o) : ∀ c, o.op ≠ .defer c := by
  intro c e
  unfold Plainly at h
  rw [Array.all_eq_true] at h
  obtain ⟨hi, e2⟩ := Array.getElem?_eq_some_iff.1 ho
  have := h i hi
  rw [e2, e] at this
  cases this
/-- What ends as it should, and never runs out. -/
def Ends (Q : Exit → Act → World → Prop) (e : Exit) (a : Act) (w : World) : Prop := e = .normal ∧ Q .normal a w
theorem ends_not (Q : Exit → Act → World → Prop) : ¬ LetsOut (Ends Q) := fun ⟨_, _, h, _⟩ => by cases h
theorem opIn_of {Q : Exit → Act → World → Prop} (l : Nat) (hd : Plainly ops = true) {i : Nat} {K K' : Act → World → Prop} (hK : ∀ a w, K a w → K' a w) {a : Act} {w : World} (h : wpOp P ops (Ends Q) i K a w) :
    wpOpIn (Fence.wide.inRound l) n P ops Q i K' a w := by
  unfold wpOp at h
  unfold wpOpIn
  cases ho : ops[i]? with
  | none => rw [ho] at h; exact hK _ _ h
  | some o =>
    simp only [ho] at h ⊢
    by_cases hw : Region.wanted o (yielded ops a.tmps) = true
    · rw [if_pos hw] at h ⊢
      have h := h.resolve_right (fun h => ends_not Q h.2)
      unfold Oper.wp at h
      unfold Oper.wpIn
      refine ⟨fun _ _ => trivial, ?_⟩
      rw [Oper.semAt_plain _ _ _ (plainly_at hd ho)]
      generalize (execOp a.eval o).run P w = r at h ⊢
      cases r with
      | ok x w' =>
        cases x with
        | value v => exact hK _ _ h
        | skip => exact hK _ _ h
        | defer d => exact hK _ _ h
        | enter f args =>
          refine ⟨fun h => by simp [Fence.wide, Fence.inRound] at h, ?_⟩
          refine (callsIn_wide.2 h).mono ?_
          intro e w'' he
          cases e with
          | returned v => exact hK _ _ he
          | panicked c => exact absurd he.1 (by simp)
          | outgrown => exact (ends_not Q he).elim
        | row r args =>
          refine ⟨fun h => by simp [Fence.wide, Fence.inRound] at h, ?_⟩
          intro c cs _
          obtain ⟨v, w'', r1, s⟩ := Rows.mono h (fun v w' h => hK _ _ h) c cs
          exact ⟨v, w'', r1, stepsIn_wide.2 s⟩
        | _ => exact h.elim
      | halt x w' =>
        cases x with
        | panic v => exact absurd h.1 (by simp)
        | _ => exact h.elim
    · rw [if_neg hw] at h ⊢
      exact ⟨fun _ _ => trivial, hK _ _ h⟩
theorem anyIn_of {Q : Exit → Act → World → Prop} (l : Nat) (hd : Plainly ops = true) : ∀ (fuel : Nat) (listed : Array Bool) (a : Act) (w : World), wpAny P .any ops (Ends Q) fuel listed a w → wpAnyIn (Fence.wide.inRound l) n P .any ops Q fuel listed a w := by
  intro fuel
  induction fuel with
  | zero => intro listed a w h; exact ⟨h.1, h.2.2⟩
  | succ fuel ih => intro listed a w h; exact ⟨fun e => (h.1 e).2, fun i hi => opIn_of l hd (fun a w => ih _ a w) (h.2 i hi)⟩
/-- Reads in any order, then one forced tail. -/
theorem any_still {Q : Exit → Act → World → Prop} {a : Act} {w : World} {l : List Oper} (n : Nat) (hB : Region.lexTailB .any l.toArray n = true)
    (h : wpStill P l.toArray w (fun a' => wpList P l.toArray Q (l.drop n) a' w) (l.take n) a) : wpAny P .any l.toArray Q l.toArray.size (Array.replicate l.toArray.size false) a w := by
  simp only [Region.lexTailB, Bool.and_eq_true, decide_eq_true_eq] at hB
  obtain ⟨⟨⟨⟨h1, h2⟩, h3⟩, h4⟩, h5⟩ := hB
  have l1 : (l.take n).length = n := by rw [List.length_take]; simp at h2; omega
  have l2 : (l.drop n).length = l.toArray.size - n := by simp
  have hinv : HeadInv .any l.toArray n (Array.replicate l.toArray.size false) :=
    ⟨by simp, fun j oj _ hl => (by rw [getD_replicate_false] at hl; cases hl), fun t _ ht => getD_in (by simpa using ht) (getD_replicate_false _ _)⟩
  have hhead := wpAnyL_lex (md := .any) (g := l.toArray.size - n) h1 h3 h4 h2 (l.take n) 0 _ a (fun j hj => by rw [l1] at hj; simp [hj]) (by rw [Nat.zero_add]; exact l1) hinv (by rw [l1]; exact h5) h
  have hall := wpAny_of_head (Q' := Q) (g := l.toArray.size - n) (fun listed a' hL => by
    have ht := wpAny_of_seq (md := .any) (Q' := Q) (l.drop n) n listed a' w (fun j => by simp [List.getElem?_drop]) (by rw [l2]; exact hL.1) hL.2
    rwa [l2] at ht) _ _ _ hhead
  rw [l1] at hall
  have e : n + (l.toArray.size - n) = l.toArray.size := by omega
  rw [e] at hall
  exact hall
theorem region_still_round {id m : Nat} {Q : Exit → Act → World → Prop} {a : Act} {w : World} {l : List Oper} (lp n : Nat) (hm : P.follows .mixedOrders = true) (hd : Plainly l.toArray = true) (hB : Region.lexTailB .any l.toArray n = true)
    (h : wpStill P l.toArray w.drew (fun a' => wpList P l.toArray (Ends Q) (l.drop n) a' w.drew) (l.take n) a) : (Code.region id l.toArray true).wpIn (Fence.wide.inRound lp) m P Q a w :=
  wpIn_region_any hm (anyIn_of lp hd _ _ _ _ (any_still n hB h))
end

end Go.Proofs.Ytgeifbgjfbfcfaa
