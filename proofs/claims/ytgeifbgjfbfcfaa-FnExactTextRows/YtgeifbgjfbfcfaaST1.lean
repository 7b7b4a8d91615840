/- Words for rows of strings; walks: the text of a list, of the model. -/
import Derived.Test.YtgeifbgjfbfcfaaQRT1
import Derived.Test.YtgeifbgjfbfcfaaQA6
import Derived.Laws.AppendOwn

namespace Go.Proofs.Ytgeifbgjfbfcfaa
open Go.RowKit

theorem Try.infoS : (Try.prog.info? 9).map (fun i => (i.zero, i.size, i.bytes)) = some (some (.string ⟨#[]⟩), 1, 16) := by kernel_rfl
/-- A string as a value. -/
def strV (x : List UInt8) : Value := .string (bsL x)
/-- Strings of one's own. -/
def OwnS (w : World) (B : Nat) (v : Value) (l : List (List UInt8)) : Prop := w.ownsRow B 9 1 v l.length (l.map strV)
theorem OwnS.keep {w w' : World} {B : Nat} {v : Value} {l : List (List UInt8)} (h : OwnS w B v l) (hb : Below w.heap.size w w') : OwnS w' B v l :=
  ⟨h.1, h.2.imp (fun h => h) (fun ⟨g, cap, cur, e, hgB, hh, r⟩ => ⟨g, cap, cur, e, hgB, by rw [hb.block g (Array.getElem?_eq_some_iff.1 hh).1]; exact hh, r⟩)⟩
theorem OwnS.empty (w : World) (B : Nat) (hB : B ≤ w.heap.size) : OwnS (w.alloc (.cells #[] 9)) B (.slice (some ⟨w.heap.size, 0, none⟩) 0 0) [] :=
  ⟨rfl, .inr ⟨w.heap.size, 0, #[], rfl, hB, heap_alloc_new w _, Nat.zero_le _, Nat.zero_le _, rfl, rfl⟩⟩
theorem OwnS.slice {w : World} {B : Nat} {v : Value} {l : List (List UInt8)} (h : OwnS w B v l) : ∃ a c, v = .slice a l.length c := by
  rcases h.2 with ⟨e, e0⟩ | ⟨g, cap, cur, e, _⟩
  · exact ⟨none, 0, by rw [e, e0]⟩
  · exact ⟨_, _, e⟩
theorem OwnS.pos {w : World} {B : Nat} {v : Value} {l : List (List UInt8)} (h : OwnS w B v l) (h0 : 0 < l.length) : ∃ g cap, v = .slice (some ⟨g, 0, none⟩) l.length cap ∧ g < w.heap.size ∧ l.length ≤ cap ∧ ∀ (i : Nat) (hi : i < l.length), w.cell? ⟨g, i, none⟩ = some (.string (bsL l[i])) := by
  rcases h.2 with ⟨_, e⟩ | ⟨g, cap, cur, e, hgB, hh, l1, l2, hs, ht⟩
  · omega
  · refine ⟨g, cap, e, (Array.getElem?_eq_some_iff.1 hh).1, l1, fun i hi => ?_⟩
    have h6 : (cur.toList.take (l.length * 1))[i]? = (l.map strV)[i]? := by rw [ht]
    rw [List.getElem?_take, Nat.mul_one, if_pos hi] at h6
    rw [cell_of_row w g i cur _ _ hh]
    simp [hi, strV] at h6
    simpa using h6
theorem str_lit (w : World) (x : List UInt8) (T : TypeId) : ∀ j u, ([strV x] : List Value)[j]? = some u → (w.alloc (.cells #[.string (bsL x)] T)).cell? ((⟨w.heap.size, 0, none⟩ : Addr).add j) = some u := by
  intro j u hj
  match j, hj with
  | 0, hj => simp at hj; subst hj; simp [Addr.add, strV]
theorem str_one (x : List UInt8) : ∀ u ∈ ([strV x] : List Value), u.oneCell' = true := by
  intro u hu; simp at hu; subst hu; rfl
theorem OwnS.snoc {w' : World} {B : Nat} {v' : Value} {l : List (List UInt8)} {x : List UInt8} (h : w'.ownsRow B 9 1 v' (l.length + 1) (l.map strV ++ [strV x])) : OwnS w' B v' (l ++ [x]) := by
  unfold OwnS
  rw [List.length_append, List.length_singleton, List.map_append]
  exact h
/-- Words with a mark between them. -/
def jn (sep : List UInt8) : List (List UInt8) → List UInt8
  | [] => []
  | x :: t => x ++ t.flatMap (fun y => sep ++ y)
theorem jn_snoc (sep : List UInt8) {l : List (List UInt8)} (h : 0 < l.length) (y : List UInt8) : jn sep (l ++ [y]) = jn sep l ++ sep ++ y := by
  cases l with
  | nil => simp at h
  | cons x t => simp [jn]
theorem jn_one (sep y : List UInt8) : jn sep [y] = y := by simp [jn]
theorem jn_len {sep : List UInt8} {k : Nat} (hs : sep.length ≤ 10) : ∀ {l : List (List UInt8)}, (∀ x ∈ l, x.length ≤ k) → (jn sep l).length ≤ l.length * (k + 10) := by
  intro l
  cases l with
  | nil => intro _; simp [jn]
  | cons x t =>
    intro h
    have ht : ∀ t : List (List UInt8), (∀ x ∈ t, x.length ≤ k) → (t.flatMap (fun y => sep ++ y)).length ≤ t.length * (k + 10) := by
      intro t
      induction t with
      | nil => intro _; simp
      | cons y t ih =>
        intro h
        have a := ih (fun x hx => h x (List.mem_cons_of_mem _ hx))
        have b := h y (by simp)
        rw [List.flatMap_cons, List.length_append, List.length_append, List.length_cons, Nat.succ_mul]
        omega
    have a := ht t (fun x hx => h x (List.mem_cons_of_mem _ hx))
    have b := h x (by simp)
    rw [jn, List.length_append, List.length_cons, Nat.succ_mul]
    omega
theorem take_snocS {l : List (List UInt8)} {k : Nat} (h : k < l.length) : l.take (k + 1) = l.take k ++ [l[k]] := by rw [List.take_succ_eq_append_getElem h]

end Go.Proofs.Ytgeifbgjfbfcfaa
