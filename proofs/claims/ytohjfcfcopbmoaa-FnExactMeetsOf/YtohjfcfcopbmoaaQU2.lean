/- The texts U2, U3, joined. -/
import Derived.Test.YtohjfcfcopbmoaaJ7
import Derived.Deep.AppendLies
import Derived.Test.YtohjfcfcopbmoaaM6
import Derived.Deep.RegionHeld3
import Derived.Deep.RegionLaw

/- Walks: a set of vertices drawn. -/
namespace Go.Proofs.Ytohjfcfcopbmoaa
open Go.RowKit

/-- A row at work: some numbers, at most so many. -/
def RowUp (w : World) (B : Nat) (v : Value) (k : Nat) : Prop := ∃ xs : List Int, xs.length ≤ k ∧ (∀ x ∈ xs, I64 x) ∧ w.ownsRow B 2 1 v xs.length (xs.map (Value.int .i64))
theorem RowUp.only {w w' : World} {B c k : Nat} {v : Value} (h : RowUp w B v k) (ho : OnlyBlk c w w') (hc : c < B) : RowUp w' B v k := by
  obtain ⟨xs, h1, h2, h3⟩ := h
  exact ⟨xs, h1, h2, h3.1, h3.2.imp (fun h => h) (fun ⟨g, cap, cur, e, hgB, hh, r⟩ => ⟨g, cap, cur, e, hgB, by rw [ho.other g (by omega)]; exact hh, r⟩)⟩
theorem RowUp.touched {w w' : World} {B c k : Nat} {v : Value} (h : RowUp w B v k) (ht : Touched c (c + 1) w w') (hc : c < B) : RowUp w' B v k := by
  obtain ⟨xs, h1, h2, h3⟩ := h
  exact ⟨xs, h1, h2, h3.1, h3.2.imp (fun h => h) (fun ⟨g, cap, cur, e, hgB, hh, r⟩ => ⟨g, cap, cur, e, hgB, by rw [ht.other g (Array.getElem?_eq_some_iff.1 hh).1 (Or.inr (by omega))]; exact hh, r⟩)⟩
theorem RowUp.wide {w : World} {B k k' : Nat} {v : Value} (h : RowUp w B v k) (hk : k ≤ k') : RowUp w B v k' := by
  obtain ⟨xs, h1, h2⟩ := h
  exact ⟨xs, by omega, h2⟩

end Go.Proofs.Ytohjfcfcopbmoaa

/- Walks: an order drawn. -/
namespace Go.Proofs.Ytohjfcfcopbmoaa
open Go.RowKit

/-- At a step of a region that draws its order: an append to a row of one's own, of any number of values. -/
theorem step_append_own {P : Program} (w : World) {ops : Array Oper} {o : Oper} {a : Act} {K : Act → World → Prop} {Q : Exit → Act → World → Prop} {E : Prop} (hgd : o.guard = none) (s x : Operand) (t : TypeId)
    (ho : o.op = .call { callee := .builtin .append, args := #[s, x], argTypes := #[t, t] })
    (base : Nat) (e : TypeId) (i : TypeInfo) (z : Value) (size bytes : Nat) (ht : P.underlying t = some (.slice e)) (hi : P.info? e = some i) (hz : i.zero = some z)
    (hsize : i.size = size) (hby : i.bytes = bytes) (hzs : z.cells.size = size) (hsz : 0 < size)
    (v : Value) (n : Nat) (xs : List Value) (hs : a.eval s = v) (hown : w.ownsRow base e size v n xs)
    (ad : Addr) (m c : Nat) (news : List Value) (hx : a.eval x = .slice (some ad) m c) (hl : news.length = m * size) (hnews : ∀ j u, news[j]? = some u → w.cell? (ad.add j) = some u) (h1 : ∀ u ∈ news, u.oneCell' = true)
    (h63 : n + m ≤ maxLen) (hbytes : (n + m) * bytes ≤ 140737488355328) (hbase : base ≤ w.heap.size)
    (h : ∀ v' w', w'.ownsRow base e size v' (n + m) (xs ++ news) → w.grownBy w' v.ownBlock → K (a.put o.dst v') w') :
    if Region.wanted o (yielded ops a.tmps) = true then Oper.wp P o a w K Q else E := by
  have hw : Region.wanted o (yielded ops a.tmps) = true := by simp [Region.wanted, hgd]
  rw [if_pos hw]
  exact wp_append_own w s x t ho base e i z size bytes ht hi hz hsize hby hzs hsz v n xs hs hown ad m c news hx hl hnews h1 h63 hbytes hbase (fun v' w' h2 h3 _ => h v' w' h2 h3)

theorem OwnRow.cells {T : TypeId} {w : World} {B b n cl : Nat} {xs : List Int} (h : OwnRow T w B (.slice (some ⟨b, 0, none⟩) n cl) xs) : ∀ i, i < xs.length → w.cell? ⟨b, 0 + i, none⟩ = some (.int .i64 (nth xs i)) := by
  obtain ⟨h1, h2, h3⟩ := h
  rcases h3 with ⟨e, _⟩ | ⟨g', cap', cur, e, hgB, hh, l1, l2, hs, hc⟩
  · simp at e
  · simp only [Value.slice.injEq, Option.some.injEq, Addr.mk.injEq, and_true] at e
    obtain ⟨rfl, _, _⟩ := e
    intro i hi
    rw [Nat.zero_add, cell_of_row w b i cur T _ hh]
    exact hc i hi

end Go.Proofs.Ytohjfcfcopbmoaa
