/- Walks: a graph drawn, often a filled one; the draw of CliquesOf. -/
import Derived.Test.YtohjfcfcopbmoaaGreatDoorQK2
import Derived.Test.YtohjfcfcopbmoaaGreatDoorQN4
import Derived.Deep.RegionHeld3

namespace Go.Proofs.YtohjfcfcopbmoaaGreatDoor
open Go.RowKit

/-- A graph has been drawn; nothing but the cursor's block has turned. -/
def DrewC (w : World) (c : Nat) (e : Ending) (w' : World) : Prop :=
  ∃ L n a cap, e = .returned (.agg #[.slice a n cap]) ∧ n ≤ 17 ∧ OwnGrid 2 33 w' (w.heap.size + 1) (.slice a n cap) L ∧ Touched c (c + 1) w w'

theorem boxT_touched {T : TypeId} {w w' : World} {b c : Nat} {v : Value} (h : BoxT T w b v) (ht : Touched c (c + 1) w w') (hb : c < b) : BoxT T w' b v := by
  have hl := h.lt
  unfold BoxT at h ⊢
  rw [ht.other b hl (by omega)]
  exact h

/-- In the midst of the draw: the result's box, the graph and its box. -/
structure MidD (w : World) (c b2 n : Nat) (a : Option Addr) (cap : Nat) (L : List (List Int)) (W : World) : Prop where
  res : BoxAt W w.heap.size (.slice none 0 0)
  gbox : BoxAt W b2 (.slice a n cap)
  grid : OwnGrid 2 33 W (w.heap.size + 1) (.slice a n cap) L
  tch : Touched c (c + 1) w W
  sz : w.heap.size + 1 ≤ W.heap.size
theorem MidD.keep {w : World} {c b2 n : Nat} {a : Option Addr} {cap : Nat} {L : List (List Int)} {W W' : World} (h : MidD w c b2 n a cap L W) (hb : Below W.heap.size W W') : MidD w c b2 n a cap L W' :=
  ⟨h.res.keep hb, h.gbox.keep hb, h.grid.keep hb, h.tch.trans (Touched.ofBelow hb), Nat.le_trans h.sz hb.size⟩
theorem MidD.touched {w : World} {c b2 n : Nat} {a : Option Addr} {cap : Nat} {L : List (List Int)} {W W' : World} (h : MidD w c b2 n a cap L W) (ht : Touched c (c + 1) W W') (hc : c < w.heap.size ∧ c < b2) : MidD w c b2 n a cap L W' :=
  ⟨h.res.touched ht (by omega) h.res.lt, h.gbox.touched ht (by omega) h.gbox.lt, h.grid.touched ht (by omega), h.tch.trans ht, Nat.le_trans h.sz ht.size⟩
theorem MidD.set {w : World} {c b2 n q : Nat} {a : Option Addr} {cap : Nat} {L : List (List Int)} {W : World} {v : Value} (h : MidD w c b2 n a cap L W) (hq : BoxT 26 W q v) (h1 : w.heap.size < q) (h2 : q ≠ b2) (u : Value) : MidD w c b2 n a cap L (W.setCell ⟨q, 0, none⟩ u) :=
  ⟨h.res.setOther (by show q ≠ w.heap.size; omega) _, h.gbox.setOther (by show q ≠ b2; exact h2) _, h.grid.setType hq (by decide) (by decide) 0 _, h.tch.set (by show w.heap.size ≤ q; omega) _, by rw [size_setCell1]; exact h.sz⟩

set_option maxHeartbeats 2000000 in
set_option maxRecDepth 100000 in
theorem l8Draw_any (c nb : Nat) (bv : Value) (w : World) (hc : CurAt w c bv nb) (hb : BytesAt w c bv nb) : Calls Tryz.prog 95 #[.pointer (some ⟨c, 0, none⟩)] w (DrewC w c) := by
  have hcl := hc.lt
  have hb1 : Below w.heap.size w (w.alloc (.cells #[.slice none 0 0] 26)) := (Below.refl _ _).alloc (Nat.le_refl _) _
  have HX1 : Hid (BoxAt (w.alloc (.cells #[.slice none 0 0] 26)) w.heap.size (.slice none 0 0)) := BoxAt.new _ _ _
  have HC1 := Lib.hid (hc.keepB hb1 hcl)
  have HY1 := Lib.hid (hb.keepB hb1 (Nat.le_of_lt hcl))
  have HT1 : Hid (Touched c (c + 1) w (w.alloc (.cells #[.slice none 0 0] 26))) := Touched.ofBelow hb1
  clear hc hb hb1
  go_enter Tryz.func95, Tryz.ntmps95
  go_wp2_with fail
  obtain ⟨w1, hw1⟩ : ∃ w1, w1 = w.alloc (.cells #[.slice none 0 0] 26) := ⟨_, rfl⟩
  have hs1 : w1.heap.size = w.heap.size + 1 := by rw [hw1]; exact size_alloc1 _ _
  rw [← hw1] at HX1 HC1 HY1 HT1 ⊢
  clear hw1
  refine (l1DrawAny_any c nb bv w1 HC1.out HY1.out).mono ?_
  rintro e w2 ⟨L, n, a, cap, rfl, ho2, hc2, ht2, hn17⟩
  have hs2 : w1.heap.size ≤ w2.heap.size := ht2.size
  have hst : Below w2.heap.size w2 (w2.alloc (.cells #[.slice a n cap] 26)) := (Below.refl _ _).alloc (Nat.le_refl _) _
  have HX3 : Hid (BoxAt (w2.alloc (.cells #[.slice a n cap] 26)) w.heap.size (.slice none 0 0)) := (HX1.out.touched ht2 (by omega) (by omega)).keep hst
  have HB3 : Hid (BoxAt (w2.alloc (.cells #[.slice a n cap] 26)) w2.heap.size (.slice a n cap)) := BoxAt.new _ _ _
  have HC3 := Lib.hid (hc2.keepB hst hc2.lt)
  have HY3 := Lib.hid ((ht2.bytes HY1.out (by omega)).keepB hst (Nat.le_of_lt hc2.lt))
  have HG3 := Lib.hid (ho2.keep hst)
  have HT3 : Hid (Touched c (c + 1) w (w2.alloc (.cells #[.slice a n cap] 26))) := (HT1.out.trans ht2).trans (Touched.ofBelow hst)
  have hs3 : (w2.alloc (.cells #[.slice a n cap] 26)).heap.size = w2.heap.size + 1 := size_alloc1 _ _
  clear ho2 hc2 ht2 hst
  go_wp2_with fail
  generalize (w2.alloc (.cells #[.slice a n cap] 26)) = w3 at HX3 HB3 HC3 HY3 HG3 HT3 hs3 ⊢
  refine (l1Once_any c nb bv 2 w3 HC3.out HY3.out (by unfold I64; omega)).mono ?_
  rintro e w4 ⟨t, rfl, hc4, ho4⟩
  have ht4 : Touched c (c + 1) w3 w4 := ho4.touched (Nat.le_refl _) (Nat.lt_succ_self c)
  have hs4 : w3.heap.size ≤ w4.heap.size := ht4.size
  have HX4 : Hid (BoxAt w4 w.heap.size (.slice none 0 0)) := HX3.out.touched ht4 (by omega) (by omega)
  have HB4 : Hid (BoxAt w4 w2.heap.size (.slice a n cap)) := HB3.out.touched ht4 (by omega) (by omega)
  have HC4 := Lib.hid hc4
  have HY4 := Lib.hid (ht4.bytes HY3.out (by omega))
  have HG4 := Lib.hid (HG3.out.touched ht4 (by omega))
  have HT4 := Lib.hid (HT3.out.trans ht4)
  have HFIN : Hid (∀ W, Below w4.heap.size w4 W ∨ Touched c (c + 1) w4 W → W.cell? ⟨w2.heap.size, 0, none⟩ = some (.slice a n cap) ∧ BoxAt W w.heap.size (.slice none 0 0)) := fun W h => by
    rcases h with h | h
    · exact ⟨(HB4.out.keep h).1, HX4.out.keep h⟩
    · exact ⟨(HB4.out.touched h (by omega) (by omega)).1, HX4.out.touched h (by omega) (by omega)⟩
  have kb4 := HB4.out.1
  have kx4 := HX4.out.1
  have fx4 := HX4.out.2
  clear ht4 ho4 hc4
  cases t with
  | false =>
    have HQ := Lib.hid (cell_set_same (.slice a n cap) HX4.out.1)
    go_wp2
    refine bodyPost_ret (v := .agg #[.slice a n cap]) (by simp [results, Tryz.results95, go_sem, HQ.out]) rfl ⟨L, n, a, cap, rfl, hn17, (HG4.out.setBelow (by simp; omega) _).mono (by omega), HT4.out.set (Nat.le_refl _) _⟩
  | true =>
    have hlt2 : w2.heap.size < w4.heap.size := HB4.out.lt
    have hM4 : MidD w c w2.heap.size n a cap L w4 := ⟨HX4.out, HB4.out, HG4.out.mono (by omega), HT4.out, by omega⟩
    have HM4 := Lib.hid hM4
    have hltx : w.heap.size < w2.heap.size := by omega
    have KS : Hid (∀ W, Below w4.heap.size w4 W → W.cell? ⟨w2.heap.size, 0, none⟩ = some (.slice a n cap)) := fun W hb => (HB4.out.keep hb).1
    have HD : Hid (∀ W, Below w4.heap.size w4 W → Calls Tryz.prog 183 #[.pointer (some ⟨c, 0, none⟩), .agg #[.slice a n cap]] W fun e w5 => ∃ xs av k cv, e = .returned (.slice av k cv) ∧ RowAt w5 (.slice av k cv) xs ∧ MidD w c w2.heap.size n a cap L w5 ∧ w4.heap.size ≤ w5.heap.size ∧ ∀ b v, c < b → BoxT 26 W b v → BoxT 26 w5 b v) := fun W hb =>
      (l1DrawOrder_any c nb bv a n cap W (HC4.out.keepB hb HC4.out.lt) (HY4.out.keepB hb (by omega)) hn17).mono fun e w5 h => by
        obtain ⟨xs, av, k, cv, rfl, _, hor, _, ht5⟩ := h
        exact ⟨xs, av, k, cv, rfl, hor.row, (HM4.out.keep hb).touched ht5 (by omega), Nat.le_trans hb.size ht5.size, fun b v hb' hv => boxT_touched hv ht5 hb'⟩
    have HFO : Hid (∀ w5 W xs av k cv, MidD w c w2.heap.size n a cap L w5 → RowAt w5 (.slice av k cv) xs → Below w5.heap.size w5 W → Calls Tryz.prog 182 #[.agg #[.slice a n cap], .slice av k cv] W fun e w6 => ∃ m6 a6 c6 ok L6, e = .returned (.tuple #[.agg #[.slice a6 m6 c6], .bool ok]) ∧ OwnGrid 2 33 w6 (w.heap.size + 1) (.slice a6 m6 c6) L6 ∧ m6 ≤ 17 ∧ MidD w c w2.heap.size n a cap L w6 ∧ W.heap.size ≤ w6.heap.size ∧ ∀ b v, BoxT 26 W b v → BoxT 26 w6 b v) := fun w5 W xs av k cv h5 hr hb =>
      (specFillOf_any _ _ L xs W (h5.grid.keep hb).grid (hr.keep hb)).mono fun e w6 h => by
        obtain ⟨m6, a6, c6, rfl, ho6, hb6⟩ := h
        have hm : m6 ≤ 17 := by
          have h1 := fillL_small L xs
          obtain ⟨a9, c9, e9⟩ := ho6.grid.slice
          simp only [Value.slice.injEq] at e9
          rw [e9.2.1]
          unfold fillL
          split
          · rename_i hok
            have := (orderB_yes hok).1.1.2
            rw [adjL_len]; omega
          · simp
        have hs5 := h5.sz
        have hsb := hb.size
        exact ⟨m6, a6, c6, _, _, rfl, ho6.mono (by omega), hm, (h5.keep hb).keep hb6, hb6.size, fun b v hv => hv.keep hb6⟩
    clear kx4 fx4
    go_wp2_with fail
    go_cut [4, 5] (fun bv4 iv W => ∃ q a6 m6 c6 ok L6, bv4 = .pointer (some ⟨q, 0, none⟩) ∧ iv = .bool ok ∧ BoxAt W q (.slice a6 m6 c6) ∧ OwnGrid 2 33 W (w.heap.size + 1) (.slice a6 m6 c6) L6 ∧ m6 ≤ 17 ∧ MidD w c w2.heap.size n a cap L W)
    case first =>
      go_region_held3 (fun wy => wy.cell? ⟨w2.heap.size, 0, none⟩ = some (.slice a n cap)) (first | exact kb6 | exact kb5 | exact kb4 | exact KU.out _ _ (by omega) | with_reducible exact K6.out _ (by repeat (first | exact Below.refl _ _ | refine Below.drew ?_ | refine Below.alloc ?_ (by first | exact Nat.le_refl _ | (simp; done) | (simp; omega)) _)) | with_reducible exact K5.out _ (by repeat (first | exact Below.refl _ _ | refine Below.drew ?_ | refine Below.alloc ?_ (by first | exact Nat.le_refl _ | (simp; done) | (simp; omega)) _)) | with_reducible exact KS.out _ (by repeat (first | exact Below.refl _ _ | refine Below.drew ?_ | refine Below.alloc ?_ (by first | exact Nat.le_refl _ | (simp; done) | (simp; omega)) _)))
        (first
          | (go_at_call 183; (with_reducible refine (HD.out _ (by repeat (first | exact Below.refl _ _ | refine Below.drew ?_ | refine Below.alloc ?_ (by first | exact Nat.le_refl _ | (simp; done) | (simp; omega)) _))).mono ?_); rintro e w5 ⟨xs, av, k, cv, rfl, hr5, hm5, hs5, hbx5⟩; have HM5 := Lib.hid hm5; have kb5 := hm5.gbox.1; have K5 : Hid (∀ W, Below w5.heap.size w5 W → W.cell? ⟨w2.heap.size, 0, none⟩ = some (.slice a n cap)) := (fun W hb => (HM5.out.gbox.keep hb).1); have HR5 := Lib.hid hr5; (first | (have bxA := hbx5 w4.heap.size (.slice none 0 0) (by omega) ((BoxT.new w4 (.slice none 0 0) 26).keep ((Below.refl _ _).drew)); have HAA := Lib.hid bxA; have kaa := bxA.box.1; have faa := bxA.box.2; clear bxA) | (have bxA := hbx5 w4.heap.size (.slice none 0 0) (by omega) (BoxT.new w4 (.slice none 0 0) 26); have HAA := Lib.hid bxA; have kaa := bxA.box.1; have faa := bxA.box.2; clear bxA) | skip); clear hr5 hm5 hbx5)
          | (go_at_call 182; (with_reducible refine (HFO.out w5 _ xs av k cv HM5.out HR5.out (by repeat (first | exact Below.refl _ _ | refine Below.drew ?_ | refine Below.alloc ?_ (by first | exact Nat.le_refl _ | (simp; done) | (simp; omega)) _))).mono ?_); rintro e w6 ⟨m6, a6, c6, ok, L6, rfl, ho6, hm17, hm6, hs6, hbx6⟩; have HM6 := Lib.hid hm6; have HO6 := Lib.hid ho6; have kb6 := hm6.gbox.1; have K6 : Hid (∀ W, Below w6.heap.size w6 W → W.cell? ⟨w2.heap.size, 0, none⟩ = some (.slice a n cap)) := (fun W hb => (HM6.out.gbox.keep hb).1); have KU : Hid (∀ b u, b ≠ w2.heap.size → (w6.setCell ⟨b, 0, none⟩ u).cell? ⟨w2.heap.size, 0, none⟩ = some (.slice a n cap)) := (fun b u hb => (HM6.out.gbox.setOther (by show b ≠ w2.heap.size; exact hb) u).1); (first | (have bxB := hbx6 w4.heap.size (.slice none 0 0) HAA.out; have HBB := Lib.hid bxB; have kbb := bxB.box.1; have fbb := bxB.box.2; clear bxB) | (have bxB := hbx6 w5.heap.size (.slice none 0 0) (BoxT.new w5 (.slice none 0 0) 26); have HBB := Lib.hid bxB; have kbb := bxB.box.1; have fbb := bxB.box.2; clear bxB) | skip); clear ho6 hm6 hbx6))
      all_goals (
        have hs64 : w4.heap.size ≤ w6.heap.size := by first | exact Nat.le_trans hs5 hs6 | (have h6 := hs6; simp at h6; omega) | (have h6 := hs6; rw [size_alloc1] at h6; omega)
        go_wp2_with fail
        go_meet
        first
          | exact ⟨_, _, _, _, _, _, rfl, rfl, BoxAt.new _ _ _, HO6.out.keep ((Below.refl _ _).alloc (Nat.le_refl _) _), hm17, HM6.out.keep ((Below.refl _ _).alloc (Nat.le_refl _) _)⟩
          | exact ⟨_, _, _, _, _, _, rfl, rfl, (HBB.out.set _).box, HO6.out.setType HBB.out (by decide) (by decide) 0 _, hm17, HM6.out.set HBB.out (by omega) (by omega) _⟩)
    case rest =>
      rename World => W
      obtain ⟨q, a6, m6, c6, ok, L6, rfl, rfl, hq, ho6, hm17, hmd⟩ := hcut
      have HO6 := Lib.hid ho6
      have HMD := Lib.hid hmd
      have kq := hq.1
      have kg := hmd.gbox.1
      have kx := hmd.res.1
      have fx := hmd.res.2
      have HQ1 := Lib.hid (cell_set_same (.slice a6 m6 c6) hmd.res.1)
      have HQ2 := Lib.hid (cell_set_same (.slice a n cap) hmd.res.1)
      clear hq ho6 hmd kb4
      cases ok with
      | true =>
        go_wp2
        refine bodyPost_ret (v := .agg #[.slice a6 m6 c6]) (by simp [results, Tryz.results95, go_sem, HQ1.out]) rfl ⟨L6, m6, a6, c6, rfl, hm17, HO6.out.setBelow (by simp) _, HMD.out.tch.set (Nat.le_refl _) _⟩
      | false =>
        go_wp2
        refine bodyPost_ret (v := .agg #[.slice a n cap]) (by simp [results, Tryz.results95, go_sem, HQ2.out]) rfl ⟨L, n, a, cap, rfl, hn17, HMD.out.grid.setBelow (by simp) _, HMD.out.tch.set (Nat.le_refl _) _⟩

/-- A graph has been drawn out of a code. -/
def GaveC (w : World) (e : Ending) (w' : World) : Prop := ∃ L n a cap, e = .returned (.agg #[.slice a n cap]) ∧ n ≤ 17 ∧ GridAt w' (.slice a n cap) L ∧ Below w.heap.size w w'
end Go.Proofs.YtohjfcfcopbmoaaGreatDoor
