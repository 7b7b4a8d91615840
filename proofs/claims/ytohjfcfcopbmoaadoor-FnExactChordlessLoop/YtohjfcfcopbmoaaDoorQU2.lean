/- The texts U2, U3, joined. -/
import Derived.Test.YtohjfcfcopbmoaaDoorQZ3
import Derived.Deep.AppendLies
import Derived.Test.YtohjfcfcopbmoaaDoorQM4
import Derived.Deep.RegionLaw

/- Walks: a set of vertices drawn. -/
namespace Go.Proofs.YtohjfcfcopbmoaaDoor
open Go.RowKit

/-- A row at work: some numbers, at most so many. -/
def RowUp (w : World) (B : Nat) (v : Value) (k : Nat) : Prop := ∃ xs : List Int, xs.length ≤ k ∧ (∀ x ∈ xs, I64 x) ∧ w.ownsRow B 2 1 v xs.length (xs.map (Value.int .i64))
theorem RowUp.only {w w' : World} {B c k : Nat} {v : Value} (h : RowUp w B v k) (ho : OnlyBlk c w w') (hc : c < B) : RowUp w' B v k := by
  obtain ⟨xs, h1, h2, h3⟩ := h
  exact ⟨xs, h1, h2, h3.1, h3.2.imp (fun h => h) (fun ⟨g, cap, cur, e, hgB, hh, r⟩ => ⟨g, cap, cur, e, hgB, by rw [ho.other g (by omega)]; exact hh, r⟩)⟩
theorem RowUp.touched {w w' : World} {B c k : Nat} {v : Value} (h : RowUp w B v k) (ht : Touched c (c + 1) w w') (hc : c < B) : RowUp w' B v k := by
  obtain ⟨xs, h1, h2, h3⟩ := h
  exact ⟨xs, h1, h2, h3.1, h3.2.imp (fun h => h) (fun ⟨g, cap, cur, e, hgB, hh, r⟩ => ⟨g, cap, cur, e, hgB, by rw [ht.other g (Array.getElem?_eq_some_iff.1 hh).1 (Or.inr (by omega))]; exact hh, r⟩)⟩
theorem RowUp.wide {w : World} {B k k' : Nat} {v : Value} (h : RowUp w B v k) (hk : k ≤ k') : RowUp w B v k' := by
  obtain ⟨xs, h1, h2⟩ := h
  exact ⟨xs, by omega, h2⟩

end Go.Proofs.YtohjfcfcopbmoaaDoor

/- Walks: an order drawn. -/
namespace Go.Proofs.YtohjfcfcopbmoaaDoor
open Go.RowKit

set_option maxHeartbeats 800000 in
theorem l1All_any17 (n : Nat) (w : World) (hn : n ≤ 17) : Calls Tryd.prog 57 #[.int .i64 (n : Int)] w (GaveRow w (allL n)) := by
  obtain ⟨i0, hi, hz0, hz1, hz2⟩ := info_parts Tryd.infoI
  have hown0 : (w.alloc (.cells #[] 2)).ownsRow w.heap.size 2 1 (.slice (some ⟨w.heap.size, 0, none⟩) 0 0) 0 [] := World.ownsRow_lit w #[] 0 (Nat.le_refl _) (Nat.zero_le _) rfl
  have HO0 := Lib.hid hown0
  clear hown0
  go_enter Tryd.func57, Tryd.ntmps57
  go_wp2_with fail
  go_loopw [3, 4] (fun s i wr => ∃ k : Nat, k ≤ n ∧ i = .int .i64 k ∧ wr.ownsRow w.heap.size 2 1 s (allL k).length ((allL k).map (Value.int .i64)) ∧ Below w.heap.size w wr ∧ w.heap.size ≤ wr.heap.size) (fun _ i _ => n - (intOf i).toNat)
  case atStart => exact ⟨0, Nat.zero_le _, rfl, HO0.out, (Below.refl _ _).alloc (Nat.le_refl _) _, by simp⟩
  case round =>
    obtain ⟨k, hk, rfl, ho, hb, hz⟩ := hrel
    have HO := Lib.hid ho
    have HB := Lib.hid hb
    have hll := allL_len k
    have HLL := Lib.hid hll
    clear ho hb hll
    by_cases hlt : k < n
    · go_wp2_with (at_builtin; refine wpList_append_own _ rfl (.tmp 11) (.tmp 13) 26 rfl w.heap.size 2 i0 (.int .i64 0) 1 8 Tryd.underlying26 hi hz0 hz1 hz2 rfl (by decide) _ _ _ rfl (HO.out.alloc _) ⟨wr.heap.size, 0, none⟩ 1 1 [.int .i64 (k : Int)] rfl rfl ?d1 ?d2 ?d3 ?d4 ?d5 ?_)
      case d1 =>
        intro j u hj
        match j, hj with
        | 0, hj => simp at hj; subst hj; simp [Addr.add]
      case d2 => intro u hu; simp at hu; subst hu; rfl
      case d3 => rw [HLL.out]; unfold maxLen; omega
      case d4 => rw [HLL.out]; omega
      case d5 => simp; omega
      intro v4 w4 hown4 hgrow4 _
      have hb4 : Below w.heap.size w w4 := (HB.out.alloc hz _).grown hgrow4 (by simp; omega) (fun j hj => (HO.out.lt j hj).1)
      have HO4 := Lib.hid hown4
      have HB4 := Lib.hid hb4
      clear hown4 hgrow4 hb4
      go_wp2
      go_roundw
      case rel =>
        refine ⟨k + 1, by omega, by go_num, ?_, HB4.out, HB4.out.size⟩
        rw [allL_succ]
        simpa using HO4.out
      case measure => simp [intOf]; omega
    · obtain rfl : k = n := by omega
      have hro : OwnRow 2 wr w.heap.size _ (allL k) := OwnRow.of_ownsRow (n := (allL k).length) HO.out (by rw [HLL.out]; unfold maxLen; omega) (fun x hx => by obtain ⟨i, h1, rfl⟩ := (allL_mem k x).1 hx; unfold I64; omega)
      obtain ⟨a4, c4, e4⟩ := hro.row.slice
      have HP : Hid (GaveRow w (allL k) (.returned (.slice a4 (allL k).length c4)) wr) := ⟨_, a4, c4, rfl, by rw [← e4]; exact hro, HB.out⟩
      rw [e4]
      clear hro e4
      go_wp2
      go_ret
      exact HP.out

/-- At a step of a region that draws its order: an append to a row of one's own, of any number of values. -/
theorem step_append_own {P : Program} (w : World) {ops : Array Oper} {o : Oper} {a : Act} {K : Act → World → Prop} {Q : Exit → Act → World → Prop} {E : Prop} (hgd : o.guard = none) (s x : Operand) (t : TypeId)
    (ho : o.op = .call { callee := .builtin .append, args := #[s, x], argTypes := #[t, t] })
    (base : Nat) (e : TypeId) (i : TypeInfo) (z : Value) (size bytes : Nat) (ht : P.underlying t = some (.slice e)) (hi : P.info? e = some i) (hz : i.zero = some z)
    (hsize : i.size = size) (hby : i.bytes = bytes) (hzs : z.cells.size = size) (hsz : 0 < size)
    (v : Value) (n : Nat) (xs : List Value) (hs : a.eval s = v) (hown : w.ownsRow base e size v n xs)
    (ad : Addr) (m c : Nat) (news : List Value) (hx : a.eval x = .slice (some ad) m c) (hl : news.length = m * size) (hnews : ∀ j u, news[j]? = some u → w.cell? (ad.add j) = some u) (h1 : ∀ u ∈ news, u.oneCell' = true)
    (h63 : n + m ≤ maxLen) (hbytes : (n + m) * bytes ≤ 140737488355328) (hbase : base ≤ w.heap.size)
    (h : ∀ v' w', w'.ownsRow base e size v' (n + m) (xs ++ news) → w.grownBy w' v.ownBlock → K (a.put o.dst v') w') :
    if Region.wanted o (yielded ops a.tmps) = true then Oper.wp P o a w K Q else E := by
  have hw : Region.wanted o (yielded ops a.tmps) = true := by simp [Region.wanted, hgd]
  rw [if_pos hw]
  exact wp_append_own w s x t ho base e i z size bytes ht hi hz hsize hby hzs hsz v n xs hs hown ad m c news hx hl hnews h1 h63 hbytes hbase (fun v' w' h2 h3 _ => h v' w' h2 h3)

def lenV : Value → Nat
  | .slice _ n _ => n
  | _ => 0

theorem OwnRow.laidAt {T : TypeId} {w : World} {B g cap : Nat} {ys : List Int} (h : OwnRow T w B (.slice (some ⟨g, 0, none⟩) ys.length cap) ys) {k : Nat} (hk : k < ys.length) {z : Int} (hz : I64 z) :
    OwnRow T (w.setCell ⟨g, k, none⟩ (.int .i64 z)) B (.slice (some ⟨g, 0, none⟩) ys.length cap) (ys.set k z) ∧ (∃ v, w.cell? ⟨g, k, none⟩ = some v) ∧ w.frozen? ⟨g, k, none⟩ = false ∧ B ≤ g := by
  obtain ⟨h1, h2, h3⟩ := h
  rcases h3 with ⟨e, _⟩ | ⟨g', cap', cur, e, hgB, hh, l1, l2, hs, hc⟩
  · simp at e
  · simp only [Value.slice.injEq, Option.some.injEq, Addr.mk.injEq, and_true, true_and] at e
    obtain ⟨rfl, rfl⟩ := e
    have hlen : (ys.set k z).length = ys.length := List.length_set
    refine ⟨⟨fun x hx => ?_, by rw [hlen]; exact h2, Or.inr ⟨g, cap, cur.set! k (.int .i64 z), by rw [hlen], hgB, heap_setCell_same w g k _ _ _ hh, by rw [hlen]; exact l1, l2, by simp [hs], fun i hi => ?_⟩⟩, ⟨.int .i64 (nth ys k), by rw [cell_of_row w g k cur T _ hh]; exact hc k hk⟩, ?_, hgB⟩
    · rcases List.mem_or_eq_of_mem_set hx with h | rfl
      · exact h1 x h
      · exact hz
    · have hi' : i < ys.length := by rw [hlen] at hi; exact hi
      rw [nth_eq hi, List.getElem_set]
      by_cases e : k = i
      · subst e; have hks : k < cur.size := by omega
        simp [hks]
      · rw [if_neg e, ← nth_eq hi', ← hc i hi']; simp [e]
    · exact frozen_of_row w g k cur T hh

theorem OwnRow.cells {T : TypeId} {w : World} {B b n cl : Nat} {xs : List Int} (h : OwnRow T w B (.slice (some ⟨b, 0, none⟩) n cl) xs) : ∀ i, i < xs.length → w.cell? ⟨b, 0 + i, none⟩ = some (.int .i64 (nth xs i)) := by
  obtain ⟨h1, h2, h3⟩ := h
  rcases h3 with ⟨e, _⟩ | ⟨g', cap', cur, e, hgB, hh, l1, l2, hs, hc⟩
  · simp at e
  · simp only [Value.slice.injEq, Option.some.injEq, Addr.mk.injEq, and_true] at e
    obtain ⟨rfl, _, _⟩ := e
    intro i hi
    rw [Nat.zero_add, cell_of_row w b i cur T _ hh]
    exact hc i hi

end Go.Proofs.YtohjfcfcopbmoaaDoor
