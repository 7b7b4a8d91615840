/- The texts J1, J2, J3, J4, joined. -/
import Derived.Test.YtohjfcfcopbmoaaGreatDoorQF6

/- Walks: the cursor over a code's bytes. -/
namespace Go.Proofs.YtohjfcfcopbmoaaGreatDoor
open Go.RowKit

theorem and255_i64 (x : Int) : 0 ≤ bits BinOp.and IntKind.i64 x 255 ∧ bits BinOp.and IntKind.i64 x 255 ≤ 255 := by
  have e : bits BinOp.and IntKind.i64 x 255 = IntKind.i64.wrap ((BitVec.ofInt 64 x &&& BitVec.ofInt 64 255).toNat : Int) := rfl
  rw [e, BitVec.toNat_and]
  have h1 : (BitVec.ofInt 64 255).toNat = 255 := by decide
  have h2 : (BitVec.ofInt 64 x).toNat &&& 255 ≤ 255 := Nat.and_le_right
  rw [h1, IntKind.wrap_i64]
  omega

/-- Block c holds a cursor over the n bytes of bv. -/
def CurAt (w : World) (c : Nat) (bv : Value) (n : Nat) : Prop := ∃ (i : Nat) (h : Int), i ≤ n ∧ w.heap[c]? = some (.cells #[bv, .int .i64 (i : Int), .int .i64 h] 164 (0, 0))
/-- A slice of n bytes below block c. -/
def BytesAt (w : World) (c : Nat) (bv : Value) (n : Nat) : Prop := n ≤ 4096 ∧ ∃ a cap, bv = .slice a n cap ∧ (0 < n → ∃ b o, a = some ⟨b, o, none⟩ ∧ b < c ∧ ∀ i, i < n → ∃ x : Nat, x < 256 ∧ w.cell? ⟨b, o + i, none⟩ = some (.int .u8 (x : Int)))
theorem BytesAt.keepB {w w' : World} {c n B : Nat} {bv : Value} (h : BytesAt w c bv n) (hb : Below B w w') (hB : c ≤ B) : BytesAt w' c bv n := by
  obtain ⟨h1, a, cap, e, h2⟩ := h
  refine ⟨h1, a, cap, e, fun hn => ?_⟩
  obtain ⟨b, o, ea, hb', hc⟩ := h2 hn
  refine ⟨b, o, ea, hb', fun i hi => ?_⟩
  obtain ⟨x, hx, hcx⟩ := hc i hi
  exact ⟨x, hx, by rw [hb.cell (by simp; omega)]; exact hcx⟩
theorem CurAt.keepB {w w' : World} {c n B : Nat} {bv : Value} (h : CurAt w c bv n) (hb : Below B w w') (hB : c < B) : CurAt w' c bv n := by
  obtain ⟨i, k, hi, hh⟩ := h
  exact ⟨i, k, hi, by rw [hb.block c hB]; exact hh⟩
theorem CurAt.lt {w : World} {c n : Nat} {bv : Value} (h : CurAt w c bv n) : c < w.heap.size := by
  obtain ⟨i, k, hi, hh⟩ := h
  exact (Array.getElem?_eq_some_iff.1 hh).1
theorem OnlyBlk.below {g : Nat} {w w' : World} (h : OnlyBlk g w w') : Below g w w' := ⟨h.os, h.tape, h.output, Nat.le_of_eq h.size.symm, fun k hk => h.other k (by omega)⟩
theorem OnlyBlk.trans {g : Nat} {a b c : World} (h : OnlyBlk g a b) (k : OnlyBlk g b c) : OnlyBlk g a c := ⟨k.os.trans h.os, k.tape.trans h.tape, k.output.trans h.output, k.size.trans h.size, fun j hj => (k.other j hj).trans (h.other j hj)⟩
theorem OnlyBlk.drewN {g : Nat} {w w' : World} (h : OnlyBlk g w w') (n : Nat) : OnlyBlk g w (w'.drewN n) := ⟨h.os, h.tape, h.output, h.size, h.other⟩
theorem OnlyBlk.drawn {g : Nat} {w w' w2 : World} (h : OnlyBlk g w w') (hd : Drawn w' w2) : OnlyBlk g w w2 := by obtain ⟨n, rfl⟩ := hd; exact h.drewN n

/-- A number has been drawn from the cursor: it fulfils p; only the cursor has turned. -/
def Drew (w : World) (c : Nat) (bv : Value) (n : Nat) (p : Int → Prop) (e : Ending) (w' : World) : Prop :=
  ∃ x : Int, e = .returned (.int .i64 x) ∧ p x ∧ CurAt w' c bv n ∧ OnlyBlk c w w'

theorem cur_set2 {w : World} {c : Nat} {bv : Value} {i h : Int} {T : TypeId} (hh : w.heap[c]? = some (.cells #[bv, .int .i64 i, .int .i64 h] T (0, 0))) (h' : Int) : (w.setCell ⟨c, 2, none⟩ (.int .i64 h')).heap[c]? = some (.cells #[bv, .int .i64 i, .int .i64 h'] T (0, 0)) := heap_setCell_same w c 2 _ _ _ hh
theorem cur_set1 {w : World} {c : Nat} {bv : Value} {i h : Int} {T : TypeId} (hh : w.heap[c]? = some (.cells #[bv, .int .i64 i, .int .i64 h] T (0, 0))) (i' : Int) : (w.setCell ⟨c, 1, none⟩ (.int .i64 i')).heap[c]? = some (.cells #[bv, .int .i64 i', .int .i64 h] T (0, 0)) := heap_setCell_same w c 1 _ _ _ hh

set_option maxHeartbeats 1600000 in
theorem l1Byte_any (c n : Nat) (bv : Value) (w : World) (hc : CurAt w c bv n) (hb : BytesAt w c bv n) : Calls Tryz.prog 227 #[.pointer (some ⟨c, 0, none⟩)] w (Drew w c bv n (fun x => 0 ≤ x ∧ x ≤ 255)) := by
  obtain ⟨i, h, hi, hh⟩ := hc
  obtain ⟨hn, a, cap, rfl, hbs⟩ := hb
  have k0 : w.cell? ⟨c, 0, none⟩ = some (.slice a n cap) := by rw [cell_of_row w c 0 _ _ _ hh]; rfl
  have k1 : w.cell? ⟨c, 1, none⟩ = some (.int .i64 (i : Int)) := by rw [cell_of_row w c 1 _ _ _ hh]; rfl
  have k2 : w.cell? ⟨c, 2, none⟩ = some (.int .i64 h) := by rw [cell_of_row w c 2 _ _ _ hh]; rfl
  have f1 : w.frozen? ⟨c, 1, none⟩ = false := frozen_of_row w c 1 _ _ hh
  have f2 : w.frozen? ⟨c, 2, none⟩ = false := frozen_of_row w c 2 _ _ hh
  have HH := Lib.hid hh
  have HBS := Lib.hid hbs
  clear hh hbs
  by_cases hlt : i < n
  · have hd : decide ((i : Int) < (n : Int)) = true := by simp; omega
    obtain ⟨b, o, rfl, hbc, hcs⟩ := HBS.out (by omega)
    obtain ⟨x, hx, hcx⟩ := hcs i hlt
    have hne : b ≠ c := by omega
    clear hcs
    go_enter Tryz.func227, Tryz.ntmps227
    go_wp2
    go_quiet (fail)
    go_wp2
    go_quiet (fail)
    go_wp2
    go_quiet (fail)
    go_wp2
    go_ret
    have e1 : IntKind.i64.wrap ((i : Int) + 1) = ((i + 1 : Nat) : Int) := by rw [IntKind.wrap_i64]; omega
    have ho := ((OnlyBlk.refl c w).setCell 2 (.int .i64 (wrap64 (wrap64 (h * 6364136223846793005) + 1442695040888963407)))).setCell 1 (.int .i64 ((i + 1 : Nat) : Int))
    exact ⟨_, rfl, and255_i64 _, ⟨i + 1, _, hlt, cur_set1 (cur_set2 HH.out (wrap64 (wrap64 (h * 6364136223846793005) + 1442695040888963407))) _⟩, ⟨ho.os, ho.tape, ho.output, ho.size, ho.other⟩⟩
  · have hd : decide ((i : Int) < (n : Int)) = false := by simp; omega
    go_enter Tryz.func227, Tryz.ntmps227
    go_wp2
    go_quiet (fail)
    go_wp2
    go_quiet (fail)
    go_wp2
    go_ret
    exact ⟨_, rfl, and255_i64 _, ⟨i, _, hi, cur_set2 HH.out _⟩, ((OnlyBlk.refl c w).setCell 2 _).drewN _ |>.drewN _⟩

end Go.Proofs.YtohjfcfcopbmoaaGreatDoor

/- Walks: numbers drawn from a cursor. -/
namespace Go.Proofs.YtohjfcfcopbmoaaGreatDoor
open Go.RowKit

theorem OnlyBlk.bytes {c n : Nat} {w w' : World} {bv : Value} (h : OnlyBlk c w w') (hb : BytesAt w c bv n) : BytesAt w' c bv n := hb.keepB h.below (Nat.le_refl _)

/-- What l1Below may give. -/
def InBelow (m x : Int) : Prop := (m ≤ 0 → x = 0) ∧ (0 < m → 0 ≤ x ∧ x < m)
theorem inBelow_mod (y : Int) {m : Int} (hm : 0 < m) : InBelow m (y % m) := ⟨fun h => by omega, fun _ => ⟨Int.emod_nonneg _ (by omega), Int.emod_lt_of_pos _ hm⟩⟩
set_option maxHeartbeats 1600000 in
theorem l1Below_any (c n : Nat) (bv : Value) (m : Int) (w : World) (hc : CurAt w c bv n) (hb : BytesAt w c bv n) (hm : I64 m) : Calls Tryz.prog 159 #[.pointer (some ⟨c, 0, none⟩), .int .i64 m] w (Drew w c bv n (InBelow m)) := by
  unfold I64 at hm
  by_cases h0 : m ≤ 0
  · have HC := Lib.hid hc
    have d0 : decide (m ≤ 0) = true := by simpa using h0
    clear hc hb
    go_enter Tryz.func159, Tryz.ntmps159
    go_wp2
    go_ret
    exact ⟨0, rfl, ⟨fun _ => rfl, fun h => by omega⟩, HC.out, OnlyBlk.refl _ _⟩
  · have d0 : decide (m ≤ 0) = false := by simpa using h0
    have HB := Lib.hid hb
    clear hb
    by_cases h1 : m ≤ 256
    · have d1 : decide (m ≤ 256) = true := by simpa using h1
      have hm0 : m ≠ 0 := by omega
      go_enter Tryz.func159, Tryz.ntmps159
      go_wp2_with fail
      refine (l1Byte_any _ _ _ _ hc HB.out).mono ?_
      rintro e w1 ⟨x, rfl, ⟨hx0, hx1⟩, hc1, ho1⟩
      have HC1 := Lib.hid hc1
      have HO1 := Lib.hid ho1
      clear hc hc1 ho1
      go_wp2
      go_ret
      exact ⟨_, rfl, inBelow_mod _ (by omega), HC1.out, HO1.out⟩
    · have d1 : decide (m ≤ 256) = false := by simpa using h1
      have hm0 : m ≠ 0 := by omega
      go_enter Tryz.func159, Tryz.ntmps159
      go_wp2_with fail
      refine (l1Byte_any _ _ _ _ hc HB.out).mono ?_
      rintro e w1 ⟨x, rfl, ⟨hx0, hx1⟩, hc1, ho1⟩
      have HO1 := Lib.hid ho1
      clear hc ho1
      go_wp2_with fail
      refine (l1Byte_any _ _ _ _ hc1 (HO1.out.bytes HB.out)).mono ?_
      rintro e w2 ⟨y, rfl, ⟨hy0, hy1⟩, hc2, ho2⟩
      have HO2 := Lib.hid (HO1.out.trans ho2)
      clear hc1 ho2
      go_wp2_with fail
      refine (l1Byte_any _ _ _ _ hc2 (HO2.out.bytes HB.out)).mono ?_
      rintro e w3 ⟨z, rfl, ⟨hz0, hz1⟩, hc3, ho3⟩
      have HO3 := Lib.hid (HO2.out.trans ho3)
      clear hc2 ho3
      go_wp2_with fail
      refine (l1Byte_any _ _ _ _ hc3 (HO3.out.bytes HB.out)).mono ?_
      rintro e w4 ⟨u, rfl, ⟨hu0, hu1⟩, hc4, ho4⟩
      have HC4 := Lib.hid hc4
      have HO4 := Lib.hid (HO3.out.trans ho4)
      clear hc3 ho4 hc4
      have hs0 : 0 ≤ x * 16777216 + y * 65536 + z * 256 + u := by omega
      go_wp2
      go_ret
      refine ⟨_, rfl, ?_, HC4.out, HO4.out⟩
      exact inBelow_mod _ (by omega)


/-- A coin has been drawn from the cursor. -/
def Coin (w : World) (c : Nat) (bv : Value) (n : Nat) (e : Ending) (w' : World) : Prop :=
  ∃ b : Bool, e = .returned (.bool b) ∧ CurAt w' c bv n ∧ OnlyBlk c w w'
theorem l1Once_any (c n : Nat) (bv : Value) (m : Int) (w : World) (hc : CurAt w c bv n) (hb : BytesAt w c bv n) (hm : I64 m) : Calls Tryz.prog 90 #[.pointer (some ⟨c, 0, none⟩), .int .i64 m] w (Coin w c bv n) := by
  go_enter Tryz.func90, Tryz.ntmps90
  go_wp2_with fail
  refine (l1Below_any _ _ _ _ _ hc hb hm).mono ?_
  rintro e w1 ⟨x, rfl, hx, hc1, ho1⟩
  have HC1 := Lib.hid hc1
  have HO1 := Lib.hid ho1
  clear hc hb hc1 ho1 hx
  go_wp2
  go_ret
  exact ⟨_, rfl, HC1.out, HO1.out⟩

end Go.Proofs.YtohjfcfcopbmoaaGreatDoor

/- Walks: a graph by dice. -/
namespace Go.Proofs.YtohjfcfcopbmoaaGreatDoor
open Go.RowKit

theorem Touched.under {c B : Nat} {w a b : World} (h : Touched c (c + 1) w a) (hb : Below B a b) (hB : w.heap.size ≤ B) : Touched c (c + 1) w b :=
  ⟨hb.os.trans h.os, hb.tape.trans h.tape, hb.output.trans h.output, Nat.le_trans h.size hb.size, fun j h1 h2 => (hb.block j (by omega)).trans (h.other j h1 h2)⟩
theorem Touched.only {c : Nat} {w a b : World} (h : Touched c (c + 1) w a) (ho : OnlyBlk c a b) : Touched c (c + 1) w b := h.trans (ho.touched (Nat.le_refl _) (by omega))
theorem Touched.bytes {c n : Nat} {w a : World} {bv : Value} (h : Touched c (c + 1) w a) (hb : BytesAt w c bv n) (hc : c ≤ w.heap.size) : BytesAt a c bv n := hb.keepB (h.below hc) (Nat.le_refl _)
theorem BoxT.only {T : TypeId} {c b : Nat} {w w' : World} {v : Value} (h : BoxT T w b v) (ho : OnlyBlk c w w') (hb : b ≠ c) : BoxT T w' b v := by unfold BoxT; rw [ho.other b hb]; exact h
theorem BoxAt.only {c b : Nat} {w w' : World} {v : Value} (h : BoxAt w b v) (ho : OnlyBlk c w w') (hb : b ≠ c) : BoxAt w' b v :=
  ⟨by rw [World.cell?_of_block (w := w) (ho.other b hb)]; exact h.1, by rw [World.frozen?_of_block (w := w) (ho.other b hb)]; exact h.2⟩

/-- In the midst of a draw: box b holds a graph of masks of one's own, box w.heap.size nothing, block c the cursor. -/
def Midst (w : World) (c : Nat) (bv : Value) (nb n b : Nat) (wr : World) : Prop :=
  ∃ M a cap, BoxT 26 wr b (.slice a n cap) ∧ OwnGrid 2 33 wr (w.heap.size + 1) (.slice a n cap) (maskL n M) ∧ BoxAt wr w.heap.size (.slice none 0 0) ∧ CurAt wr c bv nb ∧ Touched c (c + 1) w wr
theorem Midst.only {w : World} {c nb n b : Nat} {bv : Value} {wr w1 : World} (h : Midst w c bv nb n b wr) (hc : c < w.heap.size) (hb : w.heap.size < b) (ho : OnlyBlk c wr w1) (hcur : CurAt w1 c bv nb) : Midst w c bv nb n b w1 := by
  obtain ⟨M, a, cap, h1, h2, h3, _, h5⟩ := h
  exact ⟨M, a, cap, h1.only ho (by omega), h2.touched (ho.touched (Nat.le_refl _) (Nat.lt_succ_self c)) (by omega), h3.only ho (by omega), hcur, h5.only ho⟩

/-- Two vertices joined in the midst of a draw: the call of l1Link, and the store of what it gives. -/
theorem Midst.link {w : World} {c nb n b : Nat} {bv : Value} {wr : World} (h : Midst w c bv nb n b wr) (hc : c < w.heap.size) (hb : w.heap.size < b) (hn : n ≤ 16) (x y : Nat) (hx : x < n) (hy : y < n) (hxy : x ≠ y) :
    ∃ a cap, wr.cell? ⟨b, 0, none⟩ = some (.slice a n cap) ∧
      Calls Tryz.prog 181 #[.agg #[.slice a n cap], .int .i64 (x : Int), .int .i64 (y : Int)] wr (fun e w' => e = .returned (.agg #[.slice a n cap]) ∧ w'.cell? ⟨b, 0, none⟩ = some (.slice a n cap) ∧ w'.frozen? ⟨b, 0, none⟩ = false ∧ Midst w c bv nb n b (w'.setCell ⟨b, 0, none⟩ (.slice a n cap))) := by
  obtain ⟨M, a, cap, h1, h2, h3, h4, h5⟩ := h
  obtain ⟨g, cap', eg, hBg, hgs, hcell⟩ := h2.place (by rw [maskL_len]; omega)
  rw [maskL_len] at eg
  simp only [Value.slice.injEq, true_and] at eg
  obtain ⟨rfl, rfl⟩ := eg
  have hgne : g ≠ b := by
    obtain ⟨cur, hcur⟩ := h2.blkT
    intro e
    rw [e] at hcur
    have hbb : wr.heap[b]? = _ := h1
    rw [hcur] at hbb
    simp at hbb
  refine ⟨_, _, h1.box.1, ?_⟩
  have hlk := l1Link_own x y g cap (w.heap.size + 1) (maskL n M) wr (by rw [maskL_len]; exact h2) (by have := h1.lt; omega) (by rw [maskL_len]; exact hx) (by rw [maskL_len]; exact hy) (by rw [maskL_len]; exact hn) hxy (M x) (M y) (maskL_nth _ hx) (maskL_nth _ hy)
  rw [maskL_len, maskL_link _ _ _ _ hxy] at hlk
  refine hlk.mono ?_
  rintro e w6 ⟨rfl, ho6, hb6, ht6⟩
  have bt6 : BoxT 26 w6 b (.slice (some ⟨g, 0, none⟩) n cap) := by
    unfold BoxT
    rw [ht6 _ h1.lt (fun e => hgne e.symm)]
    exact h1
  refine ⟨rfl, bt6.box.1, bt6.box.2, linkM M x y, _, cap, bt6.set _, ho6.setType bt6 (by decide) (by decide) 0 _, (h3.keepB hb6 (by omega)).setOther (by simp; omega) _, ?_, ?_⟩
  · have := h4.keepB hb6 (by omega)
    obtain ⟨i, k, hi, hh⟩ := this
    exact ⟨i, k, hi, by rw [heap_setCell_other _ _ _ _ (by simp; omega)]; exact hh⟩
  · have := h5.under hb6 (by omega)
    refine ⟨this.os, this.tape, this.output, by rw [size_setCell1]; exact this.size, fun j hj hj2 => ?_⟩
    rw [heap_setCell_other _ _ _ _ (by simp; omega)]
    exact this.other j hj hj2

/-- A graph of masks of the call's own has been drawn. -/
def DrewM (w : World) (c : Nat) (bv : Value) (nb : Nat) (e : Ending) (w' : World) : Prop :=
  ∃ n M a cap, 1 ≤ n ∧ n ≤ 16 ∧ e = .returned (.agg #[.slice a n cap]) ∧ OwnGrid 2 33 w' w.heap.size (.slice a n cap) (maskL n M) ∧ CurAt w' c bv nb ∧ Touched c (c + 1) w w'
theorem Midst.done {w : World} {c nb n b : Nat} {bv : Value} {wr : World} (h : Midst w c bv nb n b wr) (hc : c < w.heap.size) (hn1 : 1 ≤ n) (hn : n ≤ 16) :
    ∃ a cap, wr.cell? ⟨b, 0, none⟩ = some (.slice a n cap) ∧ wr.cell? ⟨w.heap.size, 0, none⟩ = some (.slice none 0 0) ∧ wr.frozen? ⟨w.heap.size, 0, none⟩ = false ∧ (wr.setCell ⟨w.heap.size, 0, none⟩ (.slice a n cap)).cell? ⟨w.heap.size, 0, none⟩ = some (.slice a n cap) ∧ DrewM w c bv nb (.returned (.agg #[.slice a n cap])) (wr.setCell ⟨w.heap.size, 0, none⟩ (.slice a n cap)) := by
  obtain ⟨M, a, cap, h1, h2, h3, h4, h5⟩ := h
  refine ⟨a, cap, h1.box.1, h3.1, h3.2, cell_set_same _ h3.1, n, M, a, cap, hn1, hn, rfl, (h2.setBelow (by simp) _).mono (by omega), ?_, ?_⟩
  · obtain ⟨i, k, hi, hh⟩ := h4
    exact ⟨i, k, hi, by rw [heap_setCell_other _ _ _ _ (by simp; omega)]; exact hh⟩
  · refine ⟨h5.os, h5.tape, h5.output, by rw [size_setCell1]; exact h5.size, fun j hj hj2 => ?_⟩
    rw [heap_setCell_other _ _ _ _ (by simp; omega)]
    exact h5.other j hj hj2

end Go.Proofs.YtohjfcfcopbmoaaGreatDoor

/- Walks: l1DrawOf. -/
namespace Go.Proofs.YtohjfcfcopbmoaaGreatDoor
open Go.RowKit

set_option maxHeartbeats 1600000 in
theorem l1DrawOf_any (c nb n : Nat) (bv : Value) (w : World) (hc : CurAt w c bv nb) (hb : BytesAt w c bv nb) (hn1 : 1 ≤ n) (hn : n ≤ 16) : Calls Tryz.prog 226 #[.pointer (some ⟨c, 0, none⟩), .int .i64 (n : Int)] w (DrewM w c bv nb) := by
  have hcw := hc.lt
  have HC := Lib.hid hc
  have HBY := Lib.hid hb
  have HB0 : Hid (Below w.heap.size w (w.alloc (.cells #[.slice none 0 0] 26))) := (Below.refl _ _).alloc (Nat.le_refl _) _
  have HBX0 : Hid (BoxAt (w.alloc (.cells #[.slice none 0 0] 26)) w.heap.size (.slice none 0 0)) := BoxAt.new _ _ _
  clear hc hb
  go_enter Tryz.func226, Tryz.ntmps226
  go_wp2_with fail
  refine (l1Empty_any n _ (by omega)).mono ?_
  rintro e w2 ⟨n2, a2, c2, rfl, ho2, hb2⟩
  obtain rfl : n2 = n := by
    obtain ⟨a3, c3, e3⟩ := ho2.grid.slice
    simp only [Value.slice.injEq] at e3
    simpa using e3.2.1
  rw [maskL_zero n2 [], size_alloc1] at ho2
  have hs2 : w.heap.size + 1 ≤ w2.heap.size := by have := hb2.size; rw [size_alloc1] at this; exact this
  have hbl2 : Below w.heap.size w w2 := HB0.out.trans (hb2.mono HB0.out.size)
  have hst : Below w2.heap.size w2 (w2.alloc (.cells #[.slice a2 n2 c2] 26)) := (Below.refl _ _).alloc (Nat.le_refl _) _
  have hmid : Midst w c bv nb n2 w2.heap.size (w2.alloc (.cells #[.slice a2 n2 c2] 26)) :=
    ⟨_, a2, c2, BoxT.new _ _ _, ho2.keep hst, (HBX0.out.keep hb2).keep hst, (HC.out.keepB hbl2 hcw).keepB hst (by omega), Touched.ofBelow (hbl2.trans (hst.mono (by omega)))⟩
  have HM := Lib.hid hmid
  have hcur : CurAt (w2.alloc (.cells #[.slice a2 n2 c2] 26)) c bv nb := by obtain ⟨_, _, _, _, _, _, h4, _⟩ := hmid; exact h4
  have hby : BytesAt (w2.alloc (.cells #[.slice a2 n2 c2] 26)) c bv nb := by obtain ⟨_, _, _, _, _, _, _, h5⟩ := hmid; exact h5.bytes HBY.out (by omega)
  have HCU := Lib.hid hcur
  have HBY2 := Lib.hid hby
  clear ho2 hb2 hbl2 hst hmid hcur hby
  go_wp2_with fail
  refine (l1Below_any c nb bv _ _ HCU.out HBY2.out (by unfold I64; omega)).mono ?_
  rintro e w3 ⟨x, rfl, hx, hc3, ho3⟩
  have hx' := hx.2 (by omega)
  have HM3 := Lib.hid (HM.out.only hcw (by omega) ho3 hc3)
  clear hx hc3 ho3 HCU HBY2 HM
  obtain ⟨hx0, hx1⟩ := hx'
  go_wp2_with fail
  go_loopw [7] (fun i wr => ∃ k : Nat, 1 ≤ k ∧ k ≤ n2 ∧ i = .int .i64 k ∧ Midst w c bv nb n2 w2.heap.size wr) (fun i _ => n2 - (intOf i).toNat)
  case atStart => exact ⟨1, Nat.le_refl _, hn1, rfl, HM3.out⟩
  case round =>
    obtain ⟨k, hk1, hk, rfl, hmid⟩ := hrel
    have HM4 := Lib.hid hmid
    by_cases hlt : k < n2
    · clear hmid
      go_wp2
      go_loopw [8] (fun i w5 => ∃ u : Nat, u ≤ k ∧ i = .int .i64 u ∧ Midst w c bv nb n2 w2.heap.size w5) (fun i _ => k - (intOf i).toNat)
      case atStart => exact ⟨0, Nat.zero_le _, rfl, HM4.out⟩
      case round =>
        rename World => w5
        obtain ⟨u, hu, rfl, hmid⟩ := hrel
        have HM5 := Lib.hid hmid
        by_cases hul : u < k
        · have hcur : CurAt w5 c bv nb := by obtain ⟨_, _, _, _, _, _, h4, _⟩ := hmid; exact h4
          have hby : BytesAt w5 c bv nb := by obtain ⟨_, _, _, _, _, _, _, h5⟩ := hmid; exact h5.bytes HBY.out (by omega)
          have HCU := Lib.hid hcur
          have HBY2 := Lib.hid hby
          clear hmid hcur hby
          go_wp2_with fail
          refine (l1Below_any c nb bv _ _ HCU.out HBY2.out (by unfold I64; omega)).mono ?_
          rintro e w6 ⟨y, rfl, hy, hc6, ho6⟩
          have HM6 := Lib.hid (HM5.out.only hcw (by omega) ho6 hc6)
          clear hy hc6 ho6 HCU HBY2
          by_cases hyx : y < 1 + x
          · have dy : decide (y < 1 + x) = true := by simpa using hyx
            obtain ⟨a6, cap6, kb6, hlk⟩ := HM6.out.link hcw (by omega) hn u k (by omega) hlt (by omega)
            have HLK := Lib.hid hlk
            clear hlk
            go_wp2_with fail
            refine HLK.out.mono ?_
            rintro e w7 ⟨rfl, kb7, kf7, hm7⟩
            have HM7 := Lib.hid hm7
            clear hm7
            go_wp2
            go_roundw
            case rel => exact ⟨u + 1, by omega, by go_num, HM7.out⟩
            case measure => simp [intOf]; omega
          · have dy : decide (y < 1 + x) = false := by simpa using hyx
            go_wp2
            go_roundw
            case rel => exact ⟨u + 1, by omega, by go_num, HM6.out⟩
            case measure => simp [intOf]; omega
        · clear hmid
          obtain rfl : u = k := by omega
          go_wp2
          go_roundw
          case rel => exact ⟨u + 1, by omega, by omega, by go_num, HM5.out⟩
          case measure => simp [intOf]; omega
    · obtain rfl : k = n2 := by omega
      obtain ⟨a8, cap8, kb8, k08, f08, q08, hp8⟩ := HM4.out.done hcw hn1 hn
      have HP := Lib.hid hp8
      have HQ := Lib.hid q08
      clear hmid hp8 q08
      go_wp2
      exact bodyPost_ret (v := .agg #[.slice a8 k cap8]) (by simp [results, Tryz.results226, go_sem, HQ.out]) rfl HP.out

end Go.Proofs.YtohjfcfcopbmoaaGreatDoor
