/- The texts Z3, Z4, J1, J2, J3, J4, J5, J6, J7, J8, J9, GrowRow, K1, K2, K5, joined. -/
import Derived.Test.YtohjfcfcopbmoaaDoorQZ1
import Derived.Test.YtohjfcfcopbmoaaDoorQX2
import Derived.RangeFuncFrom
import Derived.Deep.RegionHeld3
import Derived.Test.YtohjfcfcopbmoaaDoorQY1
import Derived.Test.YtohjfcfcopbmoaaDoorQG1
import Derived.Deep.AppendLies
import Derived.Deep.RegionLaw

/- Walks: the iterator over the parts. -/
namespace Go.Proofs.YtohjfcfcopbmoaaDoor
open Go.RowKit Go.Shelf
attribute [local go_sem] Oper.semAt_some

/-- The vertices below k that begin a part. -/
noncomputable def headsTo (A : Nat → Nat → Bool) (n k : Nat) : List Nat := (List.range k).filter (fun v => headN A n v == v)
theorem headsTo_map (A : Nat → Nat → Bool) (n k : Nat) : (headsTo A n k).map (compN A n) = partsM A n k := rfl
theorem headsTo_len (A : Nat → Nat → Bool) (n k : Nat) : (headsTo A n k).length ≤ k := by
  have := List.length_filter_le (fun v => headN A n v == v) (List.range k)
  rwa [List.length_range] at this
theorem headsTo_succ {A : Nat → Nat → Bool} {n k : Nat} (h : headN A n k = k) : headsTo A n (k + 1) = headsTo A n k ++ [k] := by
  unfold headsTo
  rw [List.range_succ, List.filter_append]
  simp [h]
theorem headsTo_same {A : Nat → Nat → Bool} {n i j : Nat} (hij : i ≤ j) (h : ∀ v, i ≤ v → v < j → headN A n v ≠ v) : headsTo A n j = headsTo A n i := by
  induction j with
  | zero => obtain rfl : i = 0 := by omega
            rfl
  | succ j ih =>
    by_cases e : i = j + 1
    · subst e; rfl
    · have : headsTo A n (j + 1) = headsTo A n j := by
        unfold headsTo
        rw [List.range_succ, List.filter_append]
        simp [h j (by omega) (by omega)]
      rw [this]
      exact ih (by omega) (fun v h1 h2 => h v h1 (by omega))

/-- A part, as yield takes it. -/
noncomputable def encM (A : Nat → Nat → Bool) (n v : Nat) : Array Value := #[.int .u32 (compN A n v : Int)]

/-- What the iterator reads. -/
structure PartIn (w : World) (pt bn n : Nat) (M : Nat → Nat) : Prop where
  t : w.cell? ⟨pt, 0, none⟩ = some (.pointer (some ⟨bn, 0, none⟩))
  net : NetAt w bn n M
  tab : TabAt w
theorem PartIn.keep {w w' : World} {pt bn n : Nat} {M : Nat → Nat} (h : PartIn w pt bn n M) (hb : Below w.heap.size w w') : PartIn w' pt bn n M := ⟨cell_keep hb h.t, h.net.keep hb, h.tab.keep hb⟩
theorem PartIn.but {w w' : World} {pt bn n : Nat} {M : Nat → Nat} (h : PartIn w pt bn n M) (hb : KeepsBut (fun k => k ≠ pt ∧ k ≠ bn ∧ k ≠ 0) w w') : PartIn w' pt bn n M :=
  ⟨hb.cell (fun h => h.1 rfl) h.t, ⟨hb.cell (fun h => h.2.1 rfl) h.net.1, fun i hi => hb.cell (fun h => h.2.1 rfl) (h.net.2 i hi)⟩, fun i hi => hb.cell (fun h => h.2.2 rfl) (h.tab i hi)⟩

theorem grown_of_below {A B : World} (h : Below A.heap.size A B) : A.grownBy B none := ⟨h.os, h.tape, h.output, h.size, fun k hk _ => h.block k hk⟩

end Go.Proofs.YtohjfcfcopbmoaaDoor

/- Walks: PartsOf, of the program. -/
namespace Go.Proofs.YtohjfcfcopbmoaaDoor
open Go.RowKit Go.Shelf
attribute [local go_sem] Oper.semAt_some

theorem OwnRow.kept {T : TypeId} {w w' : World} {B : Nat} {v : Value} {xs : List Int} (h : OwnRow T w B v xs) (hk : ∀ (k : Nat) (cs : Array Value) (fr : Nat × Nat), w.heap[k]? = some (Obj.cells cs T fr) → w'.heap[k]? = some (Obj.cells cs T fr)) : OwnRow T w' B v xs := by
  obtain ⟨h1, h2, h3⟩ := h
  refine ⟨h1, h2, ?_⟩
  rcases h3 with h3 | ⟨g, cap, cur, e, hg, hh, r⟩
  · exact Or.inl h3
  · exact Or.inr ⟨g, cap, cur, e, hg, hk _ _ _ hh, r⟩
theorem OwnGrid.kept {T T1 : TypeId} {w w' : World} {B : Nat} {v : Value} {L : List (List Int)} (h : OwnGrid T T1 w B v L) (hk : ∀ (k : Nat) (cs : Array Value) (U : TypeId) (fr : Nat × Nat), U = T ∨ U = T1 → w.heap[k]? = some (Obj.cells cs U fr) → w'.heap[k]? = some (Obj.cells cs U fr)) : OwnGrid T T1 w' B v L := by
  obtain ⟨R, h2, h3, h4, h5⟩ := h
  refine ⟨R, h2, ?_, fun i hi => (h4 i hi).kept (fun k cs fr h => hk k cs T fr (.inl rfl) h), h5⟩
  rcases h3 with h3 | ⟨g, cap, cur, e, hg, hh, r⟩
  · exact Or.inl h3
  · exact Or.inr ⟨g, cap, cur, e, hg, hk _ _ _ _ (.inr rfl) hh, r⟩

/-- The program's list of parts, half done. -/
def PI (w : World) (bx B bn : Nat) (L : List (List Int)) (W : World) : Prop :=
  W.heap[bx + 1]? = some (.cells #[.pointer (some ⟨bn, 0, none⟩)] 81 (0, 0)) ∧ (∃ val, W.heap[bx]? = some (.cells #[val] 22 (0, 0)) ∧ OwnGrid 2 26 W B val L) ∧ Below w.heap.size w W
theorem PI.own {β : Type} (w : World) (bx B bn C : Nat) (f : β → List (List Int)) (hC : w.heap.size ≤ C) : OwnFrom C (fun s W => PI w bx B bn (f s) W) := by
  rintro s W W' row ⟨hpt, ⟨val, hb, hg⟩, hbel⟩ hgr hr
  have hk : ∀ (k : Nat) (cs : Array Value) (U : TypeId) (fr : Nat × Nat), W.heap[k]? = some (Obj.cells cs U fr) → W'.heap[k]? = some (Obj.cells cs U fr) := fun k cs U fr h => by
    refine (hgr.block k (Array.getElem?_eq_some_iff.1 h).1 ?_).trans h
    intro e
    obtain ⟨_, o, ho, hc⟩ := hr k e.symm
    rw [h] at ho; cases ho; simp [Obj.isCells] at hc
  refine ⟨hk _ _ _ _ hpt, ⟨val, hk _ _ _ _ hb, hg.kept (fun k cs U fr _ h => hk k cs U fr h)⟩, ?_⟩
  exact hbel.trans ⟨hgr.os, hgr.tape, hgr.output, hgr.size, fun k hk' => hgr.block k (by have := hbel.size; omega) (fun e => by have := (hr k e.symm).1; omega)⟩

section
variable {F : Fence} {n : Nat} {P : Program} {ops : Array Oper} {Q : Exit → Act → World → Prop}
theorem anyIn_one {fuel : Nat} {listed : Array Bool} {a : Act} {w : World} (i : Nat) (hr : Region.ready .any ops listed = [i]) (h : wpOpIn F n P ops Q i (wpAnyIn F n P .any ops Q fuel (listed.setIfInBounds i true)) a w) : wpAnyIn F n P .any ops Q (fuel + 1) listed a w := by
  refine ⟨fun h0 => (by rw [hr] at h0; cases h0), fun k hk => ?_⟩
  rw [hr] at hk
  simp at hk
  subst hk
  exact h
theorem anyIn_two {fuel : Nat} {listed : Array Bool} {a : Act} {w : World} (i j : Nat) (hr : Region.ready .any ops listed = [i, j]) (h : wpOpIn F n P ops Q i (wpAnyIn F n P .any ops Q fuel (listed.setIfInBounds i true)) a w)
    (h' : wpOpIn F n P ops Q j (wpAnyIn F n P .any ops Q fuel (listed.setIfInBounds j true)) a w) : wpAnyIn F n P .any ops Q (fuel + 1) listed a w := by
  refine ⟨fun h0 => (by rw [hr] at h0; cases h0), fun k hk => ?_⟩
  rw [hr] at hk
  simp at hk
  rcases hk with rfl | rfl
  · exact h
  · exact h'
theorem opIn_at {i : Nat} {o : Oper} {K : Act → World → Prop} {a : Act} {w : World} (ho : ops[i]? = some o) (hg : o.guard = none) (h : o.wpIn F n P a w K Q) : wpOpIn F n P ops Q i K a w := by
  unfold wpOpIn
  rw [ho]
  have hw : Region.wanted o (yielded ops a.tmps) = true := by simp [Region.wanted, hg]
  simp only [hw, if_true]
  exact h
theorem wpIn_append_own (w : World) {o : Oper} {a : Act} {K : Act → World → Prop} (s x : Operand) (t : TypeId) (hop : o.op = Op.call { callee := Callee.builtin Builtin.append, args := #[s, x], argTypes := #[t, t] })
    (base : Nat) (e : TypeId) (i : TypeInfo) (z : Value) (size bytes : Nat) (h1 : P.underlying t = some (.slice e)) (h2 : P.info? e = some i) (h3 : i.zero = some z) (h4 : i.size = size) (h5 : i.bytes = bytes) (h6 : z.cells.size = size) (h7 : 0 < size)
    (v : Value) (k : Nat) (xs : List Value) (hs : a.eval s = v) (hown : w.ownsRow base e size v k xs) (ad : Addr) (m c : Nat) (news : List Value) (hx : a.eval x = .slice (some ad) m c) (hn : news.length = m * size)
    (hc : ∀ j u, news[j]? = some u → w.cell? (ad.add j) = some u) (h1c : ∀ u ∈ news, u.oneCell' = true) (b1 : k + m ≤ maxLen) (b2 : (k + m) * bytes ≤ 140737488355328) (b3 : base ≤ w.heap.size)
    (hK : ∀ v' w', w'.ownsRow base e size v' (k + m) (xs ++ news) → w.grownBy w' v.ownBlock → K (a.put o.dst v') w') : o.wpIn F n P a w K Q := by
  obtain ⟨v', w', hrun, r1, r2, r3⟩ := run_append_own (P := P) w base t o.type e i z size bytes h1 h2 h3 h4 h5 h6 h7 v k xs hown ad m c news hn hc h1c b1 b2 b3
  unfold Oper.wpIn
  refine ⟨?_, ?_⟩
  · simp [Oper.about, hop, resolve, Target.leads, Sem.run_pure]
  · rw [Oper.semAt_plain F _ _ (by rw [hop]; intro c hc'; cases hc')]
    simp [execOp, hop, resolve, invoke, builtin, hs, hx, hrun, Result.andThen]
    exact hK v' w' r1 r2
end

end Go.Proofs.YtohjfcfcopbmoaaDoor

/- Walks: the cursor over a code's bytes. -/
namespace Go.Proofs.YtohjfcfcopbmoaaDoor
open Go.RowKit

theorem and255_i64 (x : Int) : 0 ≤ bits BinOp.and IntKind.i64 x 255 ∧ bits BinOp.and IntKind.i64 x 255 ≤ 255 := by
  have e : bits BinOp.and IntKind.i64 x 255 = IntKind.i64.wrap ((BitVec.ofInt 64 x &&& BitVec.ofInt 64 255).toNat : Int) := rfl
  rw [e, BitVec.toNat_and]
  have h1 : (BitVec.ofInt 64 255).toNat = 255 := by decide
  have h2 : (BitVec.ofInt 64 x).toNat &&& 255 ≤ 255 := Nat.and_le_right
  rw [h1, IntKind.wrap_i64]
  omega

/-- A slice of n bytes below block c. -/
def BytesAt (w : World) (c : Nat) (bv : Value) (n : Nat) : Prop := n ≤ 4096 ∧ ∃ a cap, bv = .slice a n cap ∧ (0 < n → ∃ b o, a = some ⟨b, o, none⟩ ∧ b < c ∧ ∀ i, i < n → ∃ x : Nat, x < 256 ∧ w.cell? ⟨b, o + i, none⟩ = some (.int .u8 (x : Int)))
theorem BytesAt.keepB {w w' : World} {c n B : Nat} {bv : Value} (h : BytesAt w c bv n) (hb : Below B w w') (hB : c ≤ B) : BytesAt w' c bv n := by
  obtain ⟨h1, a, cap, e, h2⟩ := h
  refine ⟨h1, a, cap, e, fun hn => ?_⟩
  obtain ⟨b, o, ea, hb', hc⟩ := h2 hn
  refine ⟨b, o, ea, hb', fun i hi => ?_⟩
  obtain ⟨x, hx, hcx⟩ := hc i hi
  exact ⟨x, hx, by rw [hb.cell (by simp; omega)]; exact hcx⟩
theorem OnlyBlk.below {g : Nat} {w w' : World} (h : OnlyBlk g w w') : Below g w w' := ⟨h.os, h.tape, h.output, Nat.le_of_eq h.size.symm, fun k hk => h.other k (by omega)⟩
theorem OnlyBlk.trans {g : Nat} {a b c : World} (h : OnlyBlk g a b) (k : OnlyBlk g b c) : OnlyBlk g a c := ⟨k.os.trans h.os, k.tape.trans h.tape, k.output.trans h.output, k.size.trans h.size, fun j hj => (k.other j hj).trans (h.other j hj)⟩
theorem OnlyBlk.drewN {g : Nat} {w w' : World} (h : OnlyBlk g w w') (n : Nat) : OnlyBlk g w (w'.drewN n) := ⟨h.os, h.tape, h.output, h.size, h.other⟩
theorem OnlyBlk.drawn {g : Nat} {w w' w2 : World} (h : OnlyBlk g w w') (hd : Drawn w' w2) : OnlyBlk g w w2 := by obtain ⟨n, rfl⟩ := hd; exact h.drewN n

theorem cur_set2 {w : World} {c : Nat} {bv : Value} {i h : Int} {T : TypeId} (hh : w.heap[c]? = some (.cells #[bv, .int .i64 i, .int .i64 h] T (0, 0))) (h' : Int) : (w.setCell ⟨c, 2, none⟩ (.int .i64 h')).heap[c]? = some (.cells #[bv, .int .i64 i, .int .i64 h'] T (0, 0)) := heap_setCell_same w c 2 _ _ _ hh
theorem cur_set1 {w : World} {c : Nat} {bv : Value} {i h : Int} {T : TypeId} (hh : w.heap[c]? = some (.cells #[bv, .int .i64 i, .int .i64 h] T (0, 0))) (i' : Int) : (w.setCell ⟨c, 1, none⟩ (.int .i64 i')).heap[c]? = some (.cells #[bv, .int .i64 i', .int .i64 h] T (0, 0)) := heap_setCell_same w c 1 _ _ _ hh

end Go.Proofs.YtohjfcfcopbmoaaDoor

/- Walks: numbers drawn from a cursor. -/
namespace Go.Proofs.YtohjfcfcopbmoaaDoor
open Go.RowKit

theorem OnlyBlk.bytes {c n : Nat} {w w' : World} {bv : Value} (h : OnlyBlk c w w') (hb : BytesAt w c bv n) : BytesAt w' c bv n := hb.keepB h.below (Nat.le_refl _)

/-- What l1Below may give. -/
def InBelow (m x : Int) : Prop := (m ≤ 0 → x = 0) ∧ (0 < m → 0 ≤ x ∧ x < m)
theorem inBelow_mod (y : Int) {m : Int} (hm : 0 < m) : InBelow m (y % m) := ⟨fun h => by omega, fun _ => ⟨Int.emod_nonneg _ (by omega), Int.emod_lt_of_pos _ hm⟩⟩
theorem inBelow_rem {m y : Int} (hy : 0 ≤ y) (hm : 0 < m) : InBelow m (y.tmod m) := by
  refine ⟨fun h => by omega, fun _ => ⟨Int.tmod_nonneg _ hy, Int.tmod_lt_of_pos _ hm⟩⟩

end Go.Proofs.YtohjfcfcopbmoaaDoor

/- Walks: a graph by dice. -/
namespace Go.Proofs.YtohjfcfcopbmoaaDoor
open Go.RowKit

theorem Touched.under {c B : Nat} {w a b : World} (h : Touched c (c + 1) w a) (hb : Below B a b) (hB : w.heap.size ≤ B) : Touched c (c + 1) w b :=
  ⟨hb.os.trans h.os, hb.tape.trans h.tape, hb.output.trans h.output, Nat.le_trans h.size hb.size, fun j h1 h2 => (hb.block j (by omega)).trans (h.other j h1 h2)⟩
theorem Touched.only {c : Nat} {w a b : World} (h : Touched c (c + 1) w a) (ho : OnlyBlk c a b) : Touched c (c + 1) w b := h.trans (ho.touched (Nat.le_refl _) (by omega))
theorem Touched.bytes {c n : Nat} {w a : World} {bv : Value} (h : Touched c (c + 1) w a) (hb : BytesAt w c bv n) (hc : c ≤ w.heap.size) : BytesAt a c bv n := hb.keepB (h.below hc) (Nat.le_refl _)
theorem BoxT.only {T : TypeId} {c b : Nat} {w w' : World} {v : Value} (h : BoxT T w b v) (ho : OnlyBlk c w w') (hb : b ≠ c) : BoxT T w' b v := by unfold BoxT; rw [ho.other b hb]; exact h
theorem BoxAt.only {c b : Nat} {w w' : World} {v : Value} (h : BoxAt w b v) (ho : OnlyBlk c w w') (hb : b ≠ c) : BoxAt w' b v :=
  ⟨by rw [World.cell?_of_block (w := w) (ho.other b hb)]; exact h.1, by rw [World.frozen?_of_block (w := w) (ho.other b hb)]; exact h.2⟩

end Go.Proofs.YtohjfcfcopbmoaaDoor

/- Walks: l1DrawOf. -/
namespace Go.Proofs.YtohjfcfcopbmoaaDoor
open Go.RowKit

end Go.Proofs.YtohjfcfcopbmoaaDoor

/- Walks: paths and loops, as the draws make them. -/
namespace Go.Proofs.YtohjfcfcopbmoaaDoor
open Go.RowKit

end Go.Proofs.YtohjfcfcopbmoaaDoor

/- Walks: l1Draw. -/
namespace Go.Proofs.YtohjfcfcopbmoaaDoor
open Go.RowKit

end Go.Proofs.YtohjfcfcopbmoaaDoor

/- Walks: l1Draw. -/
namespace Go.Proofs.YtohjfcfcopbmoaaDoor
open Go.RowKit

theorem Touched.set {c : Nat} {w w' : World} (h : Touched c (c + 1) w w') {a : Addr} (ha : w.heap.size ≤ a.block) (u : Value) : Touched c (c + 1) w (w'.setCell a u) :=
  ⟨h.os, h.tape, h.output, by rw [size_setCell1]; exact h.size, fun j hj hj2 => by rw [heap_setCell_other _ _ _ _ (by omega)]; exact h.other j hj hj2⟩
theorem BoxAt.touched {c b : Nat} {w w' : World} {v : Value} (h : BoxAt w b v) (ht : Touched c (c + 1) w w') (hb : b ≠ c) (hlt : b < w.heap.size) : BoxAt w' b v := by
  have hq := ht.other b hlt (by omega)
  exact ⟨by rw [World.cell?_of_block (w := w) hq]; exact h.1, by rw [World.frozen?_of_block (w := w) hq]; exact h.2⟩

end Go.Proofs.YtohjfcfcopbmoaaDoor

/- Walks: odd numbers, and numbers up to a bound. -/
namespace Go.Proofs.YtohjfcfcopbmoaaDoor
open Go.RowKit

theorem list_cell {T : TypeId} {w w' : World} {vs : List Int} (hI : ∀ x ∈ vs, I64 x) (h : w'.heap[w.heap.size]? = some (.cells (vs.map (Value.int .i64)).toArray T (0, 0))) {y : Nat} (hy : y < vs.length) : ∃ v, I64 v ∧ w'.cell? ⟨w.heap.size, y, none⟩ = some (.int .i64 v) := by
  refine ⟨vs[y], hI _ (List.getElem_mem hy), ?_⟩
  rw [cell_of_row w' w.heap.size y _ _ _ h]
  simp [hy]

end Go.Proofs.YtohjfcfcopbmoaaDoor

/- Words for l1DrawAny: a graph of one's own, of any rows, in a box. -/
namespace Go.Proofs.YtohjfcfcopbmoaaDoor
open Go.RowKit

theorem own_one {T : TypeId} {w : World} {x : Int} (hx : I64 x) : OwnRow T (w.alloc (.cells #[.int .i64 x] T)) w.heap.size (.slice (some ⟨w.heap.size, 0, none⟩) 1 1) [x] := by
  refine ⟨by intro y hy; simp at hy; subst hy; exact hx, by unfold maxLen; simp, Or.inr ⟨w.heap.size, 1, #[.int .i64 x], rfl, Nat.le_refl _, heap_alloc_new _ _, Nat.le_refl _, by unfold maxLen; omega, rfl, fun i hi => ?_⟩⟩
  have : i = 0 := by simpa using hi
  subst this; rfl

end Go.Proofs.YtohjfcfcopbmoaaDoor

/- A row of one's own grid, appended to where it lies or anew, and put back. -/
namespace Go.Proofs.YtohjfcfcopbmoaaDoor
open Go.RowKit

theorem OwnRow.far {T : TypeId} {w w' : World} {B : Nat} {v : Value} {xs : List Int} {r : Option Nat} (h : OwnRow T w B v xs) (hg : w.grownBy w' r) (hne : ∀ k, v.ownBlock = some k → some k ≠ r) : OwnRow T w' B v xs := by
  obtain ⟨h1, h2, h3⟩ := h
  refine ⟨h1, h2, ?_⟩
  rcases h3 with h3 | ⟨g, cap, cur, e, hgB, hh, rest⟩
  · exact Or.inl h3
  · refine Or.inr ⟨g, cap, cur, e, hgB, ?_, rest⟩
    rw [hg.block g (Array.getElem?_eq_some_iff.1 hh).1 (hne g (by rw [e]; rfl))]
    exact hh

theorem OwnGrid.growRow {T T1 : TypeId} {w w' : World} {B g n cap i : Nat} {L : List (List Int)} {rv rv2 : Value} {xs : List Int} (hT : T ≠ T1) (h : OwnGrid T T1 w B (.slice (some ⟨g, 0, none⟩) n cap) L) (hi : i < L.length) (hci : w.cell? ⟨g, i, none⟩ = some rv) (hg : w.grownBy w' rv.ownBlock) (hr : OwnRow T w' B rv2 xs)
    (hblk : ∀ k, rv2.ownBlock = some k → rv.ownBlock = some k ∨ w.heap.size ≤ k) :
    OwnGrid T T1 (w'.setCell ⟨g, i, none⟩ rv2) B (.slice (some ⟨g, 0, none⟩) n cap) (L.set i xs) := by
  obtain ⟨R, h2, h3, h4, h5⟩ := h
  rcases h3 with ⟨e, _⟩ | ⟨g', cap', cur, e, hgB, hh, l1, l2, hs, hc⟩
  · cases e
  · simp only [Value.slice.injEq, Option.some.injEq, Addr.mk.injEq, and_true] at e
    obtain ⟨rfl, rfl, rfl⟩ := e
    obtain ⟨hlt, _⟩ := Array.getElem?_eq_some_iff.1 hh
    have hRi : R i = rv := by
      have : w.cell? ⟨g, i, none⟩ = some (R i) := by rw [cell_of_row w g i cur _ _ hh]; exact hc i hi
      rw [hci] at this
      cases this; rfl
    have hgne : some g ≠ rv.ownBlock := by
      intro e
      obtain ⟨c2, hc2⟩ := (h4 i hi).blk (g := g) (by rw [hRi]; exact e.symm)
      rw [hh] at hc2
      simp at hc2
      exact hT hc2.2.symm
    have hh' : w'.heap[g]? = some (.cells cur T1 (0, 0)) := by rw [hg.block g hlt hgne]; exact hh
    have hne : ∀ u ys, OwnRow T w' B u ys → u.ownBlock ≠ some g := by
      intro u ys hu hub
      obtain ⟨c2, hc2⟩ := hu.blk hub
      rw [hh'] at hc2
      simp at hc2
      exact hT hc2.2.symm
    have hfar : ∀ j, j ≠ i → j < L.length → OwnRow T w' B (R j) (nthR L j) := by
      intro j hji hjl
      refine (h4 j hjl).far hg (fun k hk e => ?_)
      rw [← hRi] at e
      rcases Nat.lt_or_gt_of_ne hji with h7 | h7
      · exact h5 j i k h7 hi hk e.symm
      · exact h5 i j k h7 hjl e.symm hk
    have hlen : (L.set i xs).length = L.length := by simp
    have hnth : ∀ j, nthR (L.set i xs) j = if j = i then xs else nthR L j := by
      intro j
      unfold nthR
      by_cases e : j = i
      · subst e; simp [hi]
      · simp only [e, if_false]
        rw [List.getD_eq_getElem?_getD, List.getD_eq_getElem?_getD, List.getElem?_set_ne (by omega)]
    refine ⟨fun j => if j = i then rv2 else R j, by rw [hlen]; exact h2, Or.inr ⟨g, cap, cur.setIfInBounds i rv2, by rw [hlen], hgB, heap_setCell_same w' g i cur T1 rv2 hh', by rw [hlen]; exact l1, l2, by rw [Array.size_setIfInBounds]; exact hs, fun j hj => ?_⟩, fun j hj => ?_, fun p q k hpq hq hk => ?_⟩
    · rw [hlen] at hj
      rw [Array.getElem?_setIfInBounds]
      by_cases e : i = j
      · subst e
        rw [if_pos rfl, if_pos (by omega)]
        simp
      · rw [if_neg e, hc j hj]
        simp [show ¬ j = i from fun h => e h.symm]
    · rw [hlen] at hj
      rw [hnth j]
      by_cases e : j = i
      · simp only [e, if_true]
        exact hr.setCell (hne rv2 xs hr) _
      · simp only [e, if_false]
        have := hfar j e hj
        exact this.setCell (hne _ _ this) _
    · rw [hlen] at hq
      have fresh : ∀ j, j ≠ i → j < L.length → ∀ k, rv2.ownBlock = some k → (R j).ownBlock ≠ some k := by
        intro j hji hjl k hk2 hj2
        rcases hblk k hk2 with h6 | h6
        · rw [← hRi] at h6
          rcases Nat.lt_or_gt_of_ne hji with h7 | h7
          · exact h5 j i k h7 hi hj2 h6
          · exact h5 i j k h7 hjl h6 hj2
        · have := ((h4 j hjl).lt k hj2).2; omega
      simp only at hk ⊢
      by_cases e1 : p = i
      · have e2 : ¬ q = i := by omega
        simp only [e1, if_true] at hk
        simp only [e2, if_false]
        exact fresh q e2 hq k hk
      · simp only [e1, if_false] at hk
        by_cases e2 : q = i
        · simp only [e2, if_true]
          intro h8
          exact fresh p e1 (by omega) k h8 hk
        · simp only [e2, if_false]
          exact h5 p q k hpq hq hk

end Go.Proofs.YtohjfcfcopbmoaaDoor

/- Walks: l1DrawAny. -/
namespace Go.Proofs.YtohjfcfcopbmoaaDoor
open Go.RowKit

end Go.Proofs.YtohjfcfcopbmoaaDoor

/- Walks: a new cursor; DrawEdgesOf; the size test of a code. -/
namespace Go.Proofs.YtohjfcfcopbmoaaDoor
open Go.RowKit

end Go.Proofs.YtohjfcfcopbmoaaDoor

/- Walks: DrawEdgesOf. -/
namespace Go.Proofs.YtohjfcfcopbmoaaDoor
open Go.RowKit

theorem BytesAt.wide {w : World} {c c' n : Nat} {bv : Value} (h : BytesAt w c bv n) (hc : c ≤ c') : BytesAt w c' bv n := by
  obtain ⟨h1, a, cap, e, h2⟩ := h
  refine ⟨h1, a, cap, e, fun hn => ?_⟩
  obtain ⟨b, o, ea, hb, hcs⟩ := h2 hn
  exact ⟨b, o, ea, by omega, hcs⟩

/-- A call has handed back some graph of its own make, and has turned nothing that was there. -/
def GaveSome (w : World) (e : Ending) (w' : World) : Prop := ∃ L, GaveGraph w L e w'

end Go.Proofs.YtohjfcfcopbmoaaDoor
