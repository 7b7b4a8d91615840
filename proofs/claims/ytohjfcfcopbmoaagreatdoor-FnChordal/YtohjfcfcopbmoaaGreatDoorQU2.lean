/- The texts U2, U3, joined. -/
import Derived.Test.YtohjfcfcopbmoaaGreatDoorQJ5
import Derived.Deep.AppendLies
import Derived.Test.YtohjfcfcopbmoaaGreatDoorQM1
import Derived.Deep.RegionLaw

/- Walks: a set of vertices drawn. -/
namespace Go.Proofs.YtohjfcfcopbmoaaGreatDoor
open Go.RowKit

theorem l1From_any (c nb : Nat) (bv : Value) (w : World) (hc : CurAt w c bv nb) (hb : BytesAt w c bv nb) : Calls Tryz.prog 238 #[.pointer (some ⟨c, 0, none⟩), .int .i64 (-1), .int .i64 7] w (Drew w c bv nb (fun y => -1 ≤ y ∧ y ≤ 7)) := by
  have HBY := Lib.hid hb
  have HC := Lib.hid hc
  clear hc hb
  go_enter Tryz.func238, Tryz.ntmps238
  go_wp2_with fail
  refine (l1Below_any c nb bv _ _ HC.out HBY.out (by unfold I64; omega)).mono ?_
  rintro e w1 ⟨y, rfl, hy, hc1, ho1⟩
  have hy' := hy.2 (by omega)
  have HC1 := Lib.hid hc1
  have HO1 := Lib.hid ho1
  clear hc1 ho1 hy
  go_wp2
  go_ret
  exact ⟨-1 + y, rfl, ⟨by omega, by omega⟩, HC1.out, HO1.out⟩

/-- A row has been drawn: any numbers, not many. -/
def DrewS (w : World) (c : Nat) (bv : Value) (nb : Nat) (e : Ending) (w' : World) : Prop :=
  ∃ xs a k cap, e = .returned (.slice a k cap) ∧ xs.length ≤ 18 ∧ OwnRow 2 w' w.heap.size (.slice a k cap) xs ∧ CurAt w' c bv nb ∧ Touched c (c + 1) w w'

/-- A row at work: some numbers, at most so many. -/
def RowUp (w : World) (B : Nat) (v : Value) (k : Nat) : Prop := ∃ xs : List Int, xs.length ≤ k ∧ (∀ x ∈ xs, I64 x) ∧ w.ownsRow B 2 1 v xs.length (xs.map (Value.int .i64))
theorem RowUp.only {w w' : World} {B c k : Nat} {v : Value} (h : RowUp w B v k) (ho : OnlyBlk c w w') (hc : c < B) : RowUp w' B v k := by
  obtain ⟨xs, h1, h2, h3⟩ := h
  exact ⟨xs, h1, h2, h3.1, h3.2.imp (fun h => h) (fun ⟨g, cap, cur, e, hgB, hh, r⟩ => ⟨g, cap, cur, e, hgB, by rw [ho.other g (by omega)]; exact hh, r⟩)⟩
theorem RowUp.touched {w w' : World} {B c k : Nat} {v : Value} (h : RowUp w B v k) (ht : Touched c (c + 1) w w') (hc : c < B) : RowUp w' B v k := by
  obtain ⟨xs, h1, h2, h3⟩ := h
  exact ⟨xs, h1, h2, h3.1, h3.2.imp (fun h => h) (fun ⟨g, cap, cur, e, hgB, hh, r⟩ => ⟨g, cap, cur, e, hgB, by rw [ht.other g (Array.getElem?_eq_some_iff.1 hh).1 (Or.inr (by omega))]; exact hh, r⟩)⟩
theorem RowUp.wide {w : World} {B k k' : Nat} {v : Value} (h : RowUp w B v k) (hk : k ≤ k') : RowUp w B v k' := by
  obtain ⟨xs, h1, h2⟩ := h
  exact ⟨xs, by omega, h2⟩

end Go.Proofs.YtohjfcfcopbmoaaGreatDoor

/- Walks: an order drawn. -/
namespace Go.Proofs.YtohjfcfcopbmoaaGreatDoor
open Go.RowKit

set_option maxHeartbeats 800000 in
theorem l1All_any17 (n : Nat) (w : World) (hn : n ≤ 17) : Calls Tryz.prog 140 #[.int .i64 (n : Int)] w (GaveRow w (allL n)) := by
  obtain ⟨i0, hi, hz0, hz1, hz2⟩ := info_parts Tryz.infoI
  have hown0 : (w.alloc (.cells #[] 2)).ownsRow w.heap.size 2 1 (.slice (some ⟨w.heap.size, 0, none⟩) 0 0) 0 [] := World.ownsRow_lit w #[] 0 (Nat.le_refl _) (Nat.zero_le _) rfl
  have HO0 := Lib.hid hown0
  clear hown0
  go_enter Tryz.func140, Tryz.ntmps140
  go_wp2_with fail
  go_loopw [3, 4] (fun s i wr => ∃ k : Nat, k ≤ n ∧ i = .int .i64 k ∧ wr.ownsRow w.heap.size 2 1 s (allL k).length ((allL k).map (Value.int .i64)) ∧ Below w.heap.size w wr ∧ w.heap.size ≤ wr.heap.size) (fun _ i _ => n - (intOf i).toNat)
  case atStart => exact ⟨0, Nat.zero_le _, rfl, HO0.out, (Below.refl _ _).alloc (Nat.le_refl _) _, by simp⟩
  case round =>
    obtain ⟨k, hk, rfl, ho, hb, hz⟩ := hrel
    have HO := Lib.hid ho
    have HB := Lib.hid hb
    have hll := allL_len k
    have HLL := Lib.hid hll
    clear ho hb hll
    by_cases hlt : k < n
    · go_wp2_with (at_builtin; refine wpList_append_own _ rfl (.tmp 11) (.tmp 13) 33 rfl w.heap.size 2 i0 (.int .i64 0) 1 8 Tryz.underlying33 hi hz0 hz1 hz2 rfl (by decide) _ _ _ rfl (HO.out.alloc _) ⟨wr.heap.size, 0, none⟩ 1 1 [.int .i64 (k : Int)] rfl rfl ?d1 ?d2 ?d3 ?d4 ?d5 ?_)
      case d1 =>
        intro j u hj
        match j, hj with
        | 0, hj => simp at hj; subst hj; simp [Addr.add]
      case d2 => intro u hu; simp at hu; subst hu; rfl
      case d3 => rw [HLL.out]; unfold maxLen; omega
      case d4 => rw [HLL.out]; omega
      case d5 => simp; omega
      intro v4 w4 hown4 hgrow4 _
      have hb4 : Below w.heap.size w w4 := (HB.out.alloc hz _).grown hgrow4 (by simp; omega) (fun j hj => (HO.out.lt j hj).1)
      have HO4 := Lib.hid hown4
      have HB4 := Lib.hid hb4
      clear hown4 hgrow4 hb4
      go_wp2
      go_roundw
      case rel =>
        refine ⟨k + 1, by omega, by go_num, ?_, HB4.out, HB4.out.size⟩
        rw [allL_succ]
        simpa using HO4.out
      case measure => simp [intOf]; omega
    · obtain rfl : k = n := by omega
      have hro : OwnRow 2 wr w.heap.size _ (allL k) := OwnRow.of_ownsRow (n := (allL k).length) HO.out (by rw [HLL.out]; unfold maxLen; omega) (fun x hx => by obtain ⟨i, h1, rfl⟩ := (allL_mem k x).1 hx; unfold I64; omega)
      obtain ⟨a4, c4, e4⟩ := hro.row.slice
      have HP : Hid (GaveRow w (allL k) (.returned (.slice a4 (allL k).length c4)) wr) := ⟨_, a4, c4, rfl, by rw [← e4]; exact hro, HB.out⟩
      rw [e4]
      clear hro e4
      go_wp2
      go_ret
      exact HP.out

/-- At a step of a region that draws its order: an append to a row of one's own, of any number of values. -/
theorem step_append_own {P : Program} (w : World) {ops : Array Oper} {o : Oper} {a : Act} {K : Act → World → Prop} {Q : Exit → Act → World → Prop} {E : Prop} (hgd : o.guard = none) (s x : Operand) (t : TypeId)
    (ho : o.op = .call { callee := .builtin .append, args := #[s, x], argTypes := #[t, t] })
    (base : Nat) (e : TypeId) (i : TypeInfo) (z : Value) (size bytes : Nat) (ht : P.underlying t = some (.slice e)) (hi : P.info? e = some i) (hz : i.zero = some z)
    (hsize : i.size = size) (hby : i.bytes = bytes) (hzs : z.cells.size = size) (hsz : 0 < size)
    (v : Value) (n : Nat) (xs : List Value) (hs : a.eval s = v) (hown : w.ownsRow base e size v n xs)
    (ad : Addr) (m c : Nat) (news : List Value) (hx : a.eval x = .slice (some ad) m c) (hl : news.length = m * size) (hnews : ∀ j u, news[j]? = some u → w.cell? (ad.add j) = some u) (h1 : ∀ u ∈ news, u.oneCell' = true)
    (h63 : n + m ≤ maxLen) (hbytes : (n + m) * bytes ≤ 140737488355328) (hbase : base ≤ w.heap.size)
    (h : ∀ v' w', w'.ownsRow base e size v' (n + m) (xs ++ news) → w.grownBy w' v.ownBlock → K (a.put o.dst v') w') :
    if Region.wanted o (yielded ops a.tmps) = true then Oper.wp P o a w K Q else E := by
  have hw : Region.wanted o (yielded ops a.tmps) = true := by simp [Region.wanted, hgd]
  rw [if_pos hw]
  exact wp_append_own w s x t ho base e i z size bytes ht hi hz hsize hby hzs hsz v n xs hs hown ad m c news hx hl hnews h1 h63 hbytes hbase (fun v' w' h2 h3 _ => h v' w' h2 h3)

def lenV : Value → Nat
  | .slice _ n _ => n
  | _ => 0

/-- An order half drawn. -/
def Half (w : World) (c : Nat) (bv : Value) (nb : Nat) (vl vo : Value) (wr : World) : Prop :=
  ∃ xs ys : List Int, xs.length + ys.length ≤ 17 ∧ OwnRow 2 wr (w.heap.size + 1) vl xs ∧ OwnRow 2 wr (w.heap.size + 1) vo ys ∧ (∀ k, vl.ownBlock = some k → some k ≠ vo.ownBlock) ∧ CurAt wr c bv nb ∧ Touched c (c + 1) w wr ∧ w.heap.size + 1 ≤ wr.heap.size

theorem OwnRow.laidAt {T : TypeId} {w : World} {B g cap : Nat} {ys : List Int} (h : OwnRow T w B (.slice (some ⟨g, 0, none⟩) ys.length cap) ys) {k : Nat} (hk : k < ys.length) {z : Int} (hz : I64 z) :
    OwnRow T (w.setCell ⟨g, k, none⟩ (.int .i64 z)) B (.slice (some ⟨g, 0, none⟩) ys.length cap) (ys.set k z) ∧ (∃ v, w.cell? ⟨g, k, none⟩ = some v) ∧ w.frozen? ⟨g, k, none⟩ = false ∧ B ≤ g := by
  obtain ⟨h1, h2, h3⟩ := h
  rcases h3 with ⟨e, _⟩ | ⟨g', cap', cur, e, hgB, hh, l1, l2, hs, hc⟩
  · simp at e
  · simp only [Value.slice.injEq, Option.some.injEq, Addr.mk.injEq, and_true, true_and] at e
    obtain ⟨rfl, rfl⟩ := e
    have hlen : (ys.set k z).length = ys.length := List.length_set
    refine ⟨⟨fun x hx => ?_, by rw [hlen]; exact h2, Or.inr ⟨g, cap, cur.set! k (.int .i64 z), by rw [hlen], hgB, heap_setCell_same w g k _ _ _ hh, by rw [hlen]; exact l1, l2, by simp [hs], fun i hi => ?_⟩⟩, ⟨.int .i64 (nth ys k), by rw [cell_of_row w g k cur T _ hh]; exact hc k hk⟩, ?_, hgB⟩
    · rcases List.mem_or_eq_of_mem_set hx with h | rfl
      · exact h1 x h
      · exact hz
    · have hi' : i < ys.length := by rw [hlen] at hi; exact hi
      rw [nth_eq hi, List.getElem_set]
      by_cases e : k = i
      · subst e; have hks : k < cur.size := by omega
        simp [hks]
      · rw [if_neg e, ← nth_eq hi', ← hc i hi']; simp [e]
    · exact frozen_of_row w g k cur T hh

theorem OwnRow.cells {T : TypeId} {w : World} {B b n cl : Nat} {xs : List Int} (h : OwnRow T w B (.slice (some ⟨b, 0, none⟩) n cl) xs) : ∀ i, i < xs.length → w.cell? ⟨b, 0 + i, none⟩ = some (.int .i64 (nth xs i)) := by
  obtain ⟨h1, h2, h3⟩ := h
  rcases h3 with ⟨e, _⟩ | ⟨g', cap', cur, e, hgB, hh, l1, l2, hs, hc⟩
  · simp at e
  · simp only [Value.slice.injEq, Option.some.injEq, Addr.mk.injEq, and_true] at e
    obtain ⟨rfl, _, _⟩ := e
    intro i hi
    rw [Nat.zero_add, cell_of_row w b i cur T _ hh]
    exact hc i hi

/-- A number taken out of what is left. -/
theorem half_step {w w4 w5 w6 : World} {c nb b cl g4 cap4 k q : Nat} {bv v5 v6 : Value} {xs ys : List Int} {x : Int} (hl : OwnRow 2 w4 (w.heap.size + 1) (.slice (some ⟨b, 0, none⟩) xs.length cl) xs) (ho : OwnRow 2 w4 (w.heap.size + 1) (.slice (some ⟨g4, 0, none⟩) (ys.length + 1) cap4) (ys ++ [x])) (hc : CurAt w4 c bv nb) (ht : Touched c (c + 1) w w4) (hb5 : Below w4.heap.size w4 w5) (ho5 : OwnRow 2 w5 w4.heap.size v5 (xs.take k)) (hq : q = k + 1) (hk : k < xs.length) (hxy : xs.length + ys.length ≤ 17) (hz4 : w.heap.size + 1 ≤ w4.heap.size) (hg : g4 < w4.heap.size) (hcw : c < w.heap.size)
    (hown : w6.ownsRow w4.heap.size 2 1 v6 ((xs.take k).length + (xs.length - q)) ((xs.take k).map (Value.int .i64) ++ (xs.drop q).map (Value.int .i64))) (hgrow : w5.grownBy w6 v5.ownBlock) :
    ∃ (a6 : Option Addr) (n6 c6 : Nat), v6 = .slice a6 n6 c6 ∧ n6 + 1 = xs.length ∧ Half w c bv nb (.slice a6 n6 c6) (.slice (some ⟨g4, 0, none⟩) (ys.length + 1) cap4) w6 := by
  have hb6 : Below w4.heap.size w4 w6 := hb5.grown hgrow hb5.size (fun j hj => (ho5.lt j hj).1)
  have hro : OwnRow 2 w6 w4.heap.size v6 (xs.take k ++ xs.drop q) := OwnRow.of_ownsRow (n := (xs.take k).length + (xs.length - q)) (by simpa using hown) (by simp; unfold maxLen; omega) (fun z hz => by
    rcases List.mem_append.1 hz with hz | hz
    · exact hl.1 z (List.mem_of_mem_take hz)
    · exact hl.1 z (List.mem_of_mem_drop hz))
  obtain ⟨a6, c6, e6⟩ := hro.row.slice
  have hlen : (xs.take k ++ xs.drop q).length + 1 = xs.length := by simp; omega
  refine ⟨a6, _, c6, e6, hlen, xs.take k ++ xs.drop q, ys ++ [x], by simp; omega, by rw [← e6]; exact hro.mono hz4, ho.keep hb6, ?_, hc.keepB hb6 (by omega), ht.under hb6 (by omega), by have := hb6.size; omega⟩
  intro j hj e
  rw [← e6] at hj
  have := (hro.lt j hj).1
  simp [Value.ownBlock] at e
  omega

set_option maxHeartbeats 3200000 in
set_option maxRecDepth 100000 in
theorem l1DrawOrder_any (c nb : Nat) (bv : Value) (a : Option Addr) (n cap : Nat) (w : World) (hc : CurAt w c bv nb) (hb : BytesAt w c bv nb) (hn : n ≤ 17) : Calls Tryz.prog 183 #[.pointer (some ⟨c, 0, none⟩), .agg #[.slice a n cap]] w (DrewS w c bv nb) := by
  obtain ⟨i0, hi, hz0, hz1, hz2⟩ := info_parts Tryz.infoI
  have hcw := hc.lt
  have hbel : Below w.heap.size w (w.alloc (.cells #[.slice a n cap] 26)) := (Below.refl _ _).alloc (Nat.le_refl _) _
  have HBE := Lib.hid hbel
  have HC0 := Lib.hid (hc.keepB hbel hcw)
  have HBY := Lib.hid hb
  clear hbel hc hb
  go_enter Tryz.func183, Tryz.ntmps183
  go_wp2_with fail
  refine (l1All_any17 n _ hn).mono ?_
  rintro e w1 ⟨n1, a1, c1, rfl, ho1, hb1⟩
  rw [size_alloc1] at ho1
  have hs1 : w.heap.size + 1 ≤ w1.heap.size := by have := hb1.size; rw [size_alloc1] at this; exact this
  have hbw1 : Below w.heap.size w w1 := HBE.out.trans (hb1.mono (by simp))
  have hbA : Below w1.heap.size w1 (w1.alloc (.cells #[] 2)) := (Below.refl _ _).alloc (Nat.le_refl _) _
  have HH0 : Hid (Half w c bv nb (.slice a1 n1 c1) (.slice (some ⟨w1.heap.size, 0, none⟩) 0 0) (w1.alloc (.cells #[] 2))) := by
    refine ⟨allL n, [], by rw [allL_len]; simpa using hn, ho1.keep hbA, ?_, ?_, (HC0.out.keepB hb1 (by simp; omega)).keepB hbA (by omega), Touched.ofBelow (hbw1.trans (hbA.mono (by omega))), by simp; omega⟩
    · have h0 : (w1.alloc (.cells #[] 2)).ownsRow w1.heap.size 2 1 (.slice (some ⟨w1.heap.size, 0, none⟩) 0 0) 0 [] := World.ownsRow_lit _ #[] 0 (Nat.le_refl _) (Nat.zero_le _) rfl
      exact (OwnRow.of_ownsRow (xs := []) h0 (Nat.zero_le _) (fun x hx => absurd hx (by simp))).mono hs1
    · intro k hk e
      have := (ho1.lt k hk).2
      simp [Value.ownBlock] at e
      omega
  clear ho1 hb1 hbw1 hbA HC0 HBE
  go_wp2_with fail
  go_loopw [5, 6] (fun l o wr => Half w c bv nb l o wr) (fun l _ _ => lenV l)
  case atStart => exact HH0.out
  case round =>
    obtain ⟨xs, ys, hxy, hl, ho, hne, hcu, ht, hzr⟩ := hrel
    by_cases hx : 0 < xs.length
    · rcases hl.2.2 with ⟨_, e0⟩ | ⟨b, cl, cur, rfl, hgB, hh, l1, l2, hs, hcs⟩
      · rw [e0] at hx; simp at hx
      have hblt := (Array.getElem?_eq_some_iff.1 hh).1
      have HL := Lib.hid hl
      have HO := Lib.hid ho
      have HNE := Lib.hid hne
      have HC := Lib.hid hcu
      have HT := Lib.hid ht
      have HLM := Lib.hid l2
      unfold maxLen at l2
      clear hl ho hne hcu ht hs hcs hh
      go_wp2_with fail
      refine (l1Below_any c nb bv _ _ HC.out (HT.out.bytes HBY.out (Nat.le_of_lt hcw)) (by unfold I64; omega)).mono ?_
      rintro e w2 ⟨y, rfl, hy, hc2, ho2⟩
      have hy' := hy.2 (by omega)
      obtain ⟨k, rfl⟩ : ∃ k : Nat, y = (k : Int) := ⟨y.toNat, by omega⟩
      have hk : k < xs.length := by omega
      have ht2 := ho2.touched (B := c) (U := c + 1) (Nat.le_refl _) (Nat.lt_succ_self c)
      have HL2 := Lib.hid (HL.out.touched ht2 (by omega))
      have HO2 := Lib.hid (HO.out.touched ht2 (by omega))
      have HC2 := Lib.hid hc2
      have HT2 := Lib.hid (HT.out.only ho2)
      have hz2' : wr.heap.size = w2.heap.size := ho2.size.symm
      have kc : w2.cell? ⟨b, k, none⟩ = some (.int .i64 (nth xs k)) := by have := HL2.out.cells k hk; rw [Nat.zero_add] at this; exact this
      have HIK : Hid (I64 (nth xs k)) := HL.out.1 _ (by rw [nth_eq hk]; exact List.getElem_mem _)
      have hbA : Below w2.heap.size w2 (w2.alloc (.cells #[.int .i64 (nth xs k)] 2)) := (Below.refl _ _).alloc (Nat.le_refl _) _
      have HBA := Lib.hid hbA
      clear hc2 ho2 ht2 hy hy' hbA HL HO HC HT
      go_wp2_with (at_builtin; refine wpList_append_lies _ rfl (.tmp 20) (.tmp 25) 33 rfl (w.heap.size + 1) 2 i0 (.int .i64 0) 1 8 Tryz.underlying33 hi hz0 hz1 hz2 rfl (by decide) _ _ _ rfl (HO2.out.owns.alloc _) ⟨w2.heap.size, 0, none⟩ 1 1 [.int .i64 (nth xs k)] rfl rfl ?d1 ?d2 (by decide) ?d3 ?d4 ?d5 (w2.heap.size + 1) ?d6 ?_)
      case d1 =>
        intro j u hj
        match j, hj with
        | 0, hj => simp at hj; subst hj; simp [Addr.add]
      case d2 => intro u hu; simp at hu; subst hu; rfl
      case d3 => unfold maxLen; omega
      case d4 => omega
      case d5 => simp; omega
      case d6 => exact size_alloc1 _ _
      intro g4 cap4 w4 hown4 hgrow4 hat4 hlt4
      have hb4 : Below (w.heap.size + 1) w2 w4 := (HBA.out.mono (by omega)).grown hgrow4 (by simp; omega) (fun j hj => (HO2.out.lt j hj).1)
      have HL4 := Lib.hid ((HL2.out.keep HBA.out).far hgrow4 HNE.out)
      have HO4 : Hid (OwnRow 2 w4 (w.heap.size + 1) (.slice (some ⟨g4, 0, none⟩) (ys.length + 1) cap4) (ys ++ [nth xs k])) := OwnRow.of_ownsRow (n := ys.length + 1) (by simpa using hown4) (by simp; unfold maxLen; omega) (fun x hx => by
        rcases List.mem_append.1 hx with hx | hx
        · exact HO2.out.1 x hx
        · simp at hx; subst hx; exact HIK.out)
      have HC4 := Lib.hid (HC2.out.keepB hb4 (by omega))
      have HT4 := Lib.hid (HT2.out.under hb4 (by omega))
      have hz4 : w.heap.size + 1 ≤ w4.heap.size := by have := hb4.size; omega
      have HRT : Hid (∀ w', Below w4.heap.size w4 w' → RowAt w' (.slice (some ⟨b, 0, none⟩) k cl) (xs.take k)) := fun w' hb => (HL4.out.keep hb).row.take (HL4.out.keep hb).cells HLM.out l1 k (by omega)
      have HTL : Hid ((xs.take k).length = k) := by show _ = _; rw [List.length_take]; omega
      have hkc : (k : Int) ≤ (cl : Int) := by omega
      obtain ⟨q, HQ⟩ : ∃ q : Nat, Hid (q = k + 1) := ⟨k + 1, rfl⟩
      have hq := HQ.out
      have hwq : IntKind.i64.wrap ((k : Int) + 1) = (q : Int) := by rw [IntKind.wrap_i64]; omega
      have hql : (q : Int) ≤ (xs.length : Int) := by omega
      have HND : Hid (∀ w', Below w4.heap.size w4 w' → ∀ j u, ((xs.drop q).map (Value.int .i64))[j]? = some u → w'.cell? ((⟨b, q, none⟩ : Addr).add j) = some u) := fun w' hb => row_news (fun i hi => by have := drop_cells hb HL4.out.cells q i hi; rw [Nat.zero_add] at this; exact this)
      have HDL : Hid (((xs.drop q).map (Value.int .i64)).length = (xs.length - q) * 1) := by show _ = _; simp
      have H63 : Hid ((xs.take k).length + (xs.length - q) ≤ maxLen) := by show _ ≤ _; rw [HTL.out]; unfold maxLen; omega
      have H64 : Hid (((xs.take k).length + (xs.length - q)) * 8 ≤ 140737488355328) := by show _ ≤ _; rw [HTL.out]; omega
      clear hown4 hgrow4 hat4 hb4 kc HL2 HO2 HC2 HT2
      clear hq
      by_cases hkc2 : q = cl
      · have HNZ : Hid (∀ w' : World, ∀ j u, ((xs.drop q).map (Value.int .i64))[j]? = some u → w'.cell? ((⟨b, 0, none⟩ : Addr).add j) = some u) := by
          intro w' j u hj
          have : xs.drop q = [] := List.drop_eq_nil_of_le (by omega)
          rw [this] at hj
          simp at hj
        have HM0 : Hid (xs.length - q = 0) := by show _ = _; omega
        have HDL0 : Hid (((xs.drop q).map (Value.int .i64)).length = 0 * 1) := by show _ = _; rw [HDL.out, HM0.out]
        have H630 : Hid ((xs.take k).length + 0 ≤ maxLen) := by rw [← HM0.out]; exact H63.out
        have H640 : Hid (((xs.take k).length + 0) * 8 ≤ 140737488355328) := by rw [← HM0.out]; exact H64.out
        subst hkc2
        go_wp2_with fail
        go_region_law (first
          | (go_simp; go_at_call 219; refine (l1Copy_any _ (xs.take k) _ (HRT.out _ (Below.refl _ _).drew) (by rw [HTL.out]; omega)).mono ?_; rintro e w5 ⟨n5, a5, c5, rfl, ho5, hb5⟩; have HB5 : Hid (Below w4.heap.size w4 w5) := (Below.refl _ _).drew.trans hb5; have HO5 : Hid (OwnRow 2 w5 w4.heap.size (.slice a5 n5 c5) (xs.take k)) := ho5; clear ho5 hb5)
          | (refine step_append_own _ (by rfl) (.tmp 30) (.tmp 34) 33 (by rfl) w4.heap.size 2 i0 (.int .i64 0) 1 8 Tryz.underlying33 hi hz0 hz1 hz2 rfl (by omega) (.slice a5 n5 c5) _ _ (by rfl) HO5.out.owns ⟨b, 0, none⟩ 0 0 ((xs.drop q).map (Value.int .i64)) (by rfl) HDL0.out (HNZ.out _) (ints_one _) H630.out H640.out HB5.out.size ?_; intro v6 w6 hown6 hgrow6; rw [← HM0.out] at hown6; obtain ⟨a6, n6, c6, rfl, hn6, hh6⟩ := half_step HL4.out HO4.out HC4.out HT4.out HB5.out HO5.out HQ.out hk hxy hz4 hlt4 hcw hown6 hgrow6; have HN6 := Lib.hid hn6; have HH6 := Lib.hid hh6; clear hown6 hgrow6 hn6 hh6))
        all_goals (
          clear hwq
          go_wp2
          go_simp
          go_roundw
          case rel => exact HH6.out
          case measure => simp [lenV]; have := HN6.out; omega)
      · have hne : (cl = q) = False := eq_false (by omega)
        have HKC := Lib.hid hkc2
        clear hkc2
        go_wp2_with fail
        go_region_law (first
          | (go_simp; go_at_call 219; refine (l1Copy_any _ (xs.take k) _ (HRT.out _ (Below.refl _ _).drew) (by rw [HTL.out]; omega)).mono ?_; rintro e w5 ⟨n5, a5, c5, rfl, ho5, hb5⟩; have HB5 : Hid (Below w4.heap.size w4 w5) := (Below.refl _ _).drew.trans hb5; have HO5 : Hid (OwnRow 2 w5 w4.heap.size (.slice a5 n5 c5) (xs.take k)) := ho5; clear ho5 hb5)
          | (refine step_append_own _ (by rfl) (.tmp 30) (.tmp 34) 33 (by rfl) w4.heap.size 2 i0 (.int .i64 0) 1 8 Tryz.underlying33 hi hz0 hz1 hz2 rfl (by omega) (.slice a5 n5 c5) _ _ (by rfl) HO5.out.owns ⟨b, q, none⟩ (xs.length - q) (cl - q) ((xs.drop q).map (Value.int .i64)) (by rfl) HDL.out (HND.out _ HB5.out) (ints_one _) H63.out H64.out HB5.out.size ?_; intro v6 w6 hown6 hgrow6; obtain ⟨a6, n6, c6, rfl, hn6, hh6⟩ := half_step HL4.out HO4.out HC4.out HT4.out HB5.out HO5.out HQ.out hk hxy hz4 hlt4 hcw hown6 hgrow6; have HN6 := Lib.hid hn6; have HH6 := Lib.hid hh6; clear hown6 hgrow6 hn6 hh6))
        all_goals (
          clear hwq
          go_wp2
          go_simp
          go_roundw
          case rel => exact HH6.out
          case measure => simp [lenV]; have := HN6.out; omega)
    · have hx0 : xs.length = 0 := by omega
      obtain ⟨al, cl, el⟩ := hl.row.slice
      rw [hx0] at el
      subst el
      obtain ⟨ao, co, eo⟩ := ho.row.slice
      subst eo
      have HO := Lib.hid ho
      have HC := Lib.hid hcu
      have HT := Lib.hid ht
      have hyl : ys.length ≤ 17 := by omega
      clear hl ho hne hcu ht hx hx0 hxy
      go_wp2_with fail
      refine (l1Once_any c nb bv _ _ HC.out (HT.out.bytes HBY.out (Nat.le_of_lt hcw)) (by unfold I64; omega)).mono ?_
      rintro e w2 ⟨b2, rfl, hc2, ho2⟩
      have ht2 := ho2.touched (B := c) (U := c + 1) (Nat.le_refl _) (Nat.lt_succ_self c)
      have HO2 := Lib.hid (HO.out.touched ht2 (by omega))
      have HC2 := Lib.hid hc2
      have HT2 := Lib.hid (HT.out.only ho2)
      clear hc2 ho2 ht2 HO HC HT
      cases b2 with
      | false =>
        go_wp2
        go_ret
        exact ⟨ys, ao, _, co, rfl, by omega, HO2.out.mono (by omega), HC2.out, HT2.out⟩
      | true =>
        by_cases hy : 0 < ys.length
        · rcases HO2.out.2.2 with ⟨_, e0⟩ | ⟨g, cg, cur, eg, hgB, hh, l1, l2, hs, hcs⟩
          · rw [e0] at hy; simp at hy
          simp only [Value.slice.injEq, true_and] at eg
          obtain ⟨rfl, rfl⟩ := eg
          clear hh l1 l2 hs hcs
          go_wp2_with fail
          refine (l1Below_any c nb bv _ _ HC2.out (HT2.out.bytes HBY.out (Nat.le_of_lt hcw)) (by unfold I64; omega)).mono ?_
          rintro e w3 ⟨y, rfl, hy3, hc3, ho3⟩
          have hy' := hy3.2 (by omega)
          obtain ⟨k, rfl⟩ : ∃ k : Nat, y = (k : Int) := ⟨y.toNat, by omega⟩
          have hk : k < ys.length := by omega
          have ht3 := ho3.touched (B := c) (U := c + 1) (Nat.le_refl _) (Nat.lt_succ_self c)
          have HO3 := Lib.hid (HO2.out.touched ht3 (by omega))
          have HC3 := Lib.hid hc3
          have HT3 := Lib.hid (HT2.out.only ho3)
          clear hy3 hy' hc3 ho3 ht3 HO2 HC2 HT2
          go_wp2_with fail
          refine (l1From_any c nb bv _ HC3.out (HT3.out.bytes HBY.out (Nat.le_of_lt hcw))).mono ?_
          rintro e w4 ⟨z, rfl, hz4, hc4, ho4⟩
          have ht4 := ho4.touched (B := c) (U := c + 1) (Nat.le_refl _) (Nat.lt_succ_self c)
          have hI : I64 z := by unfold I64; omega
          obtain ⟨hp, ⟨v4, kc4⟩, kf4, hgB4⟩ := (HO3.out.touched ht4 (by omega)).laidAt hk hI
          have HP : Hid (DrewS w c bv nb (.returned (.slice (some ⟨g, 0, none⟩) ys.length co)) (w4.setCell ⟨g, k, none⟩ (.int .i64 z))) := ⟨ys.set k z, _, _, co, rfl, by rw [List.length_set]; omega, hp.mono (by omega), hc4.setOther (by simp; omega) _, (HT3.out.only ho4).set (by simp; omega) _⟩
          clear hp hI hc4 ho4 ht4 hz4
          go_wp2
          go_ret
          exact HP.out
        · go_wp2
          go_ret
          exact ⟨ys, ao, _, co, rfl, by omega, HO2.out.mono (by omega), HC2.out, HT2.out⟩

end Go.Proofs.YtohjfcfcopbmoaaGreatDoor
