/- The texts CD1, W1, joined. -/
import Derived.Test.YtohjfcfcopbmoaaGreatDoorQK1
import Derived.Test.YtohjfcfcopbmoaaGreatDoorQEL4
import Derived.Deep.RegionHeld3
import Derived.Test.YtohjfcfcopbmoaaGreatDoorQBase

/- Walks: a graph drawn, often a filled one; the draw of CliquesOf. -/
namespace Go.Proofs.YtohjfcfcopbmoaaGreatDoor
open Go.RowKit

/-- A graph has been drawn; nothing but the cursor's block has turned. -/
def DrewC (w : World) (c : Nat) (e : Ending) (w' : World) : Prop :=
  ∃ L n a cap, e = .returned (.agg #[.slice a n cap]) ∧ n ≤ 17 ∧ OwnGrid 2 33 w' (w.heap.size + 1) (.slice a n cap) L ∧ Touched c (c + 1) w w'

theorem boxT_touched {T : TypeId} {w w' : World} {b c : Nat} {v : Value} (h : BoxT T w b v) (ht : Touched c (c + 1) w w') (hb : c < b) : BoxT T w' b v := by
  have hl := h.lt
  unfold BoxT at h ⊢
  rw [ht.other b hl (by omega)]
  exact h

/-- In the midst of the draw: the result's box, the graph and its box. -/
structure MidD (w : World) (c b2 n : Nat) (a : Option Addr) (cap : Nat) (L : List (List Int)) (W : World) : Prop where
  res : BoxAt W w.heap.size (.slice none 0 0)
  gbox : BoxAt W b2 (.slice a n cap)
  grid : OwnGrid 2 33 W (w.heap.size + 1) (.slice a n cap) L
  tch : Touched c (c + 1) w W
  sz : w.heap.size + 1 ≤ W.heap.size
theorem MidD.keep {w : World} {c b2 n : Nat} {a : Option Addr} {cap : Nat} {L : List (List Int)} {W W' : World} (h : MidD w c b2 n a cap L W) (hb : Below W.heap.size W W') : MidD w c b2 n a cap L W' :=
  ⟨h.res.keep hb, h.gbox.keep hb, h.grid.keep hb, h.tch.trans (Touched.ofBelow hb), Nat.le_trans h.sz hb.size⟩
theorem MidD.touched {w : World} {c b2 n : Nat} {a : Option Addr} {cap : Nat} {L : List (List Int)} {W W' : World} (h : MidD w c b2 n a cap L W) (ht : Touched c (c + 1) W W') (hc : c < w.heap.size ∧ c < b2) : MidD w c b2 n a cap L W' :=
  ⟨h.res.touched ht (by omega) h.res.lt, h.gbox.touched ht (by omega) h.gbox.lt, h.grid.touched ht (by omega), h.tch.trans ht, Nat.le_trans h.sz ht.size⟩
theorem MidD.set {w : World} {c b2 n q : Nat} {a : Option Addr} {cap : Nat} {L : List (List Int)} {W : World} {v : Value} (h : MidD w c b2 n a cap L W) (hq : BoxT 26 W q v) (h1 : w.heap.size < q) (h2 : q ≠ b2) (u : Value) : MidD w c b2 n a cap L (W.setCell ⟨q, 0, none⟩ u) :=
  ⟨h.res.setOther (by show q ≠ w.heap.size; omega) _, h.gbox.setOther (by show q ≠ b2; exact h2) _, h.grid.setType hq (by decide) (by decide) 0 _, h.tch.set (by show w.heap.size ≤ q; omega) _, by rw [size_setCell1]; exact h.sz⟩

set_option maxHeartbeats 2000000 in
set_option maxRecDepth 100000 in
theorem l8Draw_any (c nb : Nat) (bv : Value) (w : World) (hc : CurAt w c bv nb) (hb : BytesAt w c bv nb) : Calls Tryz.prog 95 #[.pointer (some ⟨c, 0, none⟩)] w (DrewC w c) := by
  have hcl := hc.lt
  have hb1 : Below w.heap.size w (w.alloc (.cells #[.slice none 0 0] 26)) := (Below.refl _ _).alloc (Nat.le_refl _) _
  have HX1 : Hid (BoxAt (w.alloc (.cells #[.slice none 0 0] 26)) w.heap.size (.slice none 0 0)) := BoxAt.new _ _ _
  have HC1 := Lib.hid (hc.keepB hb1 hcl)
  have HY1 := Lib.hid (hb.keepB hb1 (Nat.le_of_lt hcl))
  have HT1 : Hid (Touched c (c + 1) w (w.alloc (.cells #[.slice none 0 0] 26))) := Touched.ofBelow hb1
  clear hc hb hb1
  go_enter Tryz.func95, Tryz.ntmps95
  go_wp2_with fail
  obtain ⟨w1, hw1⟩ : ∃ w1, w1 = w.alloc (.cells #[.slice none 0 0] 26) := ⟨_, rfl⟩
  have hs1 : w1.heap.size = w.heap.size + 1 := by rw [hw1]; exact size_alloc1 _ _
  rw [← hw1] at HX1 HC1 HY1 HT1 ⊢
  clear hw1
  refine (l1DrawAny_any c nb bv w1 HC1.out HY1.out).mono ?_
  rintro e w2 ⟨L, n, a, cap, rfl, ho2, hc2, ht2, hn17⟩
  have hs2 : w1.heap.size ≤ w2.heap.size := ht2.size
  have hst : Below w2.heap.size w2 (w2.alloc (.cells #[.slice a n cap] 26)) := (Below.refl _ _).alloc (Nat.le_refl _) _
  have HX3 : Hid (BoxAt (w2.alloc (.cells #[.slice a n cap] 26)) w.heap.size (.slice none 0 0)) := (HX1.out.touched ht2 (by omega) (by omega)).keep hst
  have HB3 : Hid (BoxAt (w2.alloc (.cells #[.slice a n cap] 26)) w2.heap.size (.slice a n cap)) := BoxAt.new _ _ _
  have HC3 := Lib.hid (hc2.keepB hst hc2.lt)
  have HY3 := Lib.hid ((ht2.bytes HY1.out (by omega)).keepB hst (Nat.le_of_lt hc2.lt))
  have HG3 := Lib.hid (ho2.keep hst)
  have HT3 : Hid (Touched c (c + 1) w (w2.alloc (.cells #[.slice a n cap] 26))) := (HT1.out.trans ht2).trans (Touched.ofBelow hst)
  have hs3 : (w2.alloc (.cells #[.slice a n cap] 26)).heap.size = w2.heap.size + 1 := size_alloc1 _ _
  clear ho2 hc2 ht2 hst
  go_wp2_with fail
  generalize (w2.alloc (.cells #[.slice a n cap] 26)) = w3 at HX3 HB3 HC3 HY3 HG3 HT3 hs3 ⊢
  refine (l1Once_any c nb bv 2 w3 HC3.out HY3.out (by unfold I64; omega)).mono ?_
  rintro e w4 ⟨t, rfl, hc4, ho4⟩
  have ht4 : Touched c (c + 1) w3 w4 := ho4.touched (Nat.le_refl _) (Nat.lt_succ_self c)
  have hs4 : w3.heap.size ≤ w4.heap.size := ht4.size
  have HX4 : Hid (BoxAt w4 w.heap.size (.slice none 0 0)) := HX3.out.touched ht4 (by omega) (by omega)
  have HB4 : Hid (BoxAt w4 w2.heap.size (.slice a n cap)) := HB3.out.touched ht4 (by omega) (by omega)
  have HC4 := Lib.hid hc4
  have HY4 := Lib.hid (ht4.bytes HY3.out (by omega))
  have HG4 := Lib.hid (HG3.out.touched ht4 (by omega))
  have HT4 := Lib.hid (HT3.out.trans ht4)
  have HFIN : Hid (∀ W, Below w4.heap.size w4 W ∨ Touched c (c + 1) w4 W → W.cell? ⟨w2.heap.size, 0, none⟩ = some (.slice a n cap) ∧ BoxAt W w.heap.size (.slice none 0 0)) := fun W h => by
    rcases h with h | h
    · exact ⟨(HB4.out.keep h).1, HX4.out.keep h⟩
    · exact ⟨(HB4.out.touched h (by omega) (by omega)).1, HX4.out.touched h (by omega) (by omega)⟩
  have kb4 := HB4.out.1
  have kx4 := HX4.out.1
  have fx4 := HX4.out.2
  clear ht4 ho4 hc4
  cases t with
  | false =>
    have HQ := Lib.hid (cell_set_same (.slice a n cap) HX4.out.1)
    go_wp2
    refine bodyPost_ret (v := .agg #[.slice a n cap]) (by simp [results, Tryz.results95, go_sem, HQ.out]) rfl ⟨L, n, a, cap, rfl, hn17, (HG4.out.setBelow (by simp; omega) _).mono (by omega), HT4.out.set (Nat.le_refl _) _⟩
  | true =>
    have hlt2 : w2.heap.size < w4.heap.size := HB4.out.lt
    have hM4 : MidD w c w2.heap.size n a cap L w4 := ⟨HX4.out, HB4.out, HG4.out.mono (by omega), HT4.out, by omega⟩
    have HM4 := Lib.hid hM4
    have hltx : w.heap.size < w2.heap.size := by omega
    have KS : Hid (∀ W, Below w4.heap.size w4 W → W.cell? ⟨w2.heap.size, 0, none⟩ = some (.slice a n cap)) := fun W hb => (HB4.out.keep hb).1
    have HD : Hid (∀ W, Below w4.heap.size w4 W → Calls Tryz.prog 183 #[.pointer (some ⟨c, 0, none⟩), .agg #[.slice a n cap]] W fun e w5 => ∃ xs av k cv, e = .returned (.slice av k cv) ∧ RowAt w5 (.slice av k cv) xs ∧ MidD w c w2.heap.size n a cap L w5 ∧ w4.heap.size ≤ w5.heap.size ∧ ∀ b v, c < b → BoxT 26 W b v → BoxT 26 w5 b v) := fun W hb =>
      (l1DrawOrder_any c nb bv a n cap W (HC4.out.keepB hb HC4.out.lt) (HY4.out.keepB hb (by omega)) hn17).mono fun e w5 h => by
        obtain ⟨xs, av, k, cv, rfl, _, hor, _, ht5⟩ := h
        exact ⟨xs, av, k, cv, rfl, hor.row, (HM4.out.keep hb).touched ht5 (by omega), Nat.le_trans hb.size ht5.size, fun b v hb' hv => boxT_touched hv ht5 hb'⟩
    have HFO : Hid (∀ w5 W xs av k cv, MidD w c w2.heap.size n a cap L w5 → RowAt w5 (.slice av k cv) xs → Below w5.heap.size w5 W → Calls Tryz.prog 182 #[.agg #[.slice a n cap], .slice av k cv] W fun e w6 => ∃ m6 a6 c6 ok L6, e = .returned (.tuple #[.agg #[.slice a6 m6 c6], .bool ok]) ∧ OwnGrid 2 33 w6 (w.heap.size + 1) (.slice a6 m6 c6) L6 ∧ m6 ≤ 17 ∧ MidD w c w2.heap.size n a cap L w6 ∧ W.heap.size ≤ w6.heap.size ∧ ∀ b v, BoxT 26 W b v → BoxT 26 w6 b v) := fun w5 W xs av k cv h5 hr hb =>
      (specFillOf_any _ _ L xs W (h5.grid.keep hb).grid (hr.keep hb)).mono fun e w6 h => by
        obtain ⟨m6, a6, c6, rfl, ho6, hb6⟩ := h
        have hm : m6 ≤ 17 := by
          have h1 := fillL_small L xs
          obtain ⟨a9, c9, e9⟩ := ho6.grid.slice
          simp only [Value.slice.injEq] at e9
          rw [e9.2.1]
          unfold fillL
          split
          · rename_i hok
            have := (orderB_yes hok).1.1.2
            rw [adjL_len]; omega
          · simp
        have hs5 := h5.sz
        have hsb := hb.size
        exact ⟨m6, a6, c6, _, _, rfl, ho6.mono (by omega), hm, (h5.keep hb).keep hb6, hb6.size, fun b v hv => hv.keep hb6⟩
    clear kx4 fx4
    go_wp2_with fail
    go_cut [4, 5] (fun bv4 iv W => ∃ q a6 m6 c6 ok L6, bv4 = .pointer (some ⟨q, 0, none⟩) ∧ iv = .bool ok ∧ BoxAt W q (.slice a6 m6 c6) ∧ OwnGrid 2 33 W (w.heap.size + 1) (.slice a6 m6 c6) L6 ∧ m6 ≤ 17 ∧ MidD w c w2.heap.size n a cap L W)
    case first =>
      go_region_held3 (fun wy => wy.cell? ⟨w2.heap.size, 0, none⟩ = some (.slice a n cap)) (first | exact kb6 | exact kb5 | exact kb4 | exact KU.out _ _ (by omega) | with_reducible exact K6.out _ (by repeat (first | exact Below.refl _ _ | refine Below.drew ?_ | refine Below.alloc ?_ (by first | exact Nat.le_refl _ | (simp; done) | (simp; omega)) _)) | with_reducible exact K5.out _ (by repeat (first | exact Below.refl _ _ | refine Below.drew ?_ | refine Below.alloc ?_ (by first | exact Nat.le_refl _ | (simp; done) | (simp; omega)) _)) | with_reducible exact KS.out _ (by repeat (first | exact Below.refl _ _ | refine Below.drew ?_ | refine Below.alloc ?_ (by first | exact Nat.le_refl _ | (simp; done) | (simp; omega)) _)))
        (first
          | (go_at_call 183; (with_reducible refine (HD.out _ (by repeat (first | exact Below.refl _ _ | refine Below.drew ?_ | refine Below.alloc ?_ (by first | exact Nat.le_refl _ | (simp; done) | (simp; omega)) _))).mono ?_); rintro e w5 ⟨xs, av, k, cv, rfl, hr5, hm5, hs5, hbx5⟩; have HM5 := Lib.hid hm5; have kb5 := hm5.gbox.1; have K5 : Hid (∀ W, Below w5.heap.size w5 W → W.cell? ⟨w2.heap.size, 0, none⟩ = some (.slice a n cap)) := (fun W hb => (HM5.out.gbox.keep hb).1); have HR5 := Lib.hid hr5; (first | (have bxA := hbx5 w4.heap.size (.slice none 0 0) (by omega) ((BoxT.new w4 (.slice none 0 0) 26).keep ((Below.refl _ _).drew)); have HAA := Lib.hid bxA; have kaa := bxA.box.1; have faa := bxA.box.2; clear bxA) | (have bxA := hbx5 w4.heap.size (.slice none 0 0) (by omega) (BoxT.new w4 (.slice none 0 0) 26); have HAA := Lib.hid bxA; have kaa := bxA.box.1; have faa := bxA.box.2; clear bxA) | skip); clear hr5 hm5 hbx5)
          | (go_at_call 182; (with_reducible refine (HFO.out w5 _ xs av k cv HM5.out HR5.out (by repeat (first | exact Below.refl _ _ | refine Below.drew ?_ | refine Below.alloc ?_ (by first | exact Nat.le_refl _ | (simp; done) | (simp; omega)) _))).mono ?_); rintro e w6 ⟨m6, a6, c6, ok, L6, rfl, ho6, hm17, hm6, hs6, hbx6⟩; have HM6 := Lib.hid hm6; have HO6 := Lib.hid ho6; have kb6 := hm6.gbox.1; have K6 : Hid (∀ W, Below w6.heap.size w6 W → W.cell? ⟨w2.heap.size, 0, none⟩ = some (.slice a n cap)) := (fun W hb => (HM6.out.gbox.keep hb).1); have KU : Hid (∀ b u, b ≠ w2.heap.size → (w6.setCell ⟨b, 0, none⟩ u).cell? ⟨w2.heap.size, 0, none⟩ = some (.slice a n cap)) := (fun b u hb => (HM6.out.gbox.setOther (by show b ≠ w2.heap.size; exact hb) u).1); (first | (have bxB := hbx6 w4.heap.size (.slice none 0 0) HAA.out; have HBB := Lib.hid bxB; have kbb := bxB.box.1; have fbb := bxB.box.2; clear bxB) | (have bxB := hbx6 w5.heap.size (.slice none 0 0) (BoxT.new w5 (.slice none 0 0) 26); have HBB := Lib.hid bxB; have kbb := bxB.box.1; have fbb := bxB.box.2; clear bxB) | skip); clear ho6 hm6 hbx6))
      all_goals (
        have hs64 : w4.heap.size ≤ w6.heap.size := by first | exact Nat.le_trans hs5 hs6 | (have h6 := hs6; simp at h6; omega) | (have h6 := hs6; rw [size_alloc1] at h6; omega)
        go_wp2_with fail
        go_meet
        first
          | exact ⟨_, _, _, _, _, _, rfl, rfl, BoxAt.new _ _ _, HO6.out.keep ((Below.refl _ _).alloc (Nat.le_refl _) _), hm17, HM6.out.keep ((Below.refl _ _).alloc (Nat.le_refl _) _)⟩
          | exact ⟨_, _, _, _, _, _, rfl, rfl, (HBB.out.set _).box, HO6.out.setType HBB.out (by decide) (by decide) 0 _, hm17, HM6.out.set HBB.out (by omega) (by omega) _⟩)
    case rest =>
      rename World => W
      obtain ⟨q, a6, m6, c6, ok, L6, rfl, rfl, hq, ho6, hm17, hmd⟩ := hcut
      have HO6 := Lib.hid ho6
      have HMD := Lib.hid hmd
      have kq := hq.1
      have kg := hmd.gbox.1
      have kx := hmd.res.1
      have fx := hmd.res.2
      have HQ1 := Lib.hid (cell_set_same (.slice a6 m6 c6) hmd.res.1)
      have HQ2 := Lib.hid (cell_set_same (.slice a n cap) hmd.res.1)
      clear hq ho6 hmd kb4
      cases ok with
      | true =>
        go_wp2
        refine bodyPost_ret (v := .agg #[.slice a6 m6 c6]) (by simp [results, Tryz.results95, go_sem, HQ1.out]) rfl ⟨L6, m6, a6, c6, rfl, hm17, HO6.out.setBelow (by simp) _, HMD.out.tch.set (Nat.le_refl _) _⟩
      | false =>
        go_wp2
        refine bodyPost_ret (v := .agg #[.slice a n cap]) (by simp [results, Tryz.results95, go_sem, HQ2.out]) rfl ⟨L, n, a, cap, rfl, hn17, HMD.out.grid.setBelow (by simp) _, HMD.out.tch.set (Nat.le_refl _) _⟩

/-- A graph has been drawn out of a code. -/
def GaveC (w : World) (e : Ending) (w' : World) : Prop := ∃ L n a cap, e = .returned (.agg #[.slice a n cap]) ∧ n ≤ 17 ∧ GridAt w' (.slice a n cap) L ∧ Below w.heap.size w w'
end Go.Proofs.YtohjfcfcopbmoaaGreatDoor

/- Plain facts: distances in a set of vertices, and the search by a queue that reckons them. -/
namespace Go.Proofs.YtohjfcfcopbmoaaGreatDoor

/-- From v one comes to u in k steps inside S. -/
def Wk (A : Nat → Nat → Bool) (S : Nat → Bool) (v : Nat) : Nat → Nat → Prop
  | 0, u => u = v ∧ S v = true
  | k + 1, u => S u = true ∧ ∃ w, Wk A S v k w ∧ A w u = true
/-- .. and in no fewer. -/
def AtD (A : Nat → Nat → Bool) (S : Nat → Bool) (v k u : Nat) : Prop := Wk A S v k u ∧ ∀ e, e < k → ¬ Wk A S v e u

section
variable {A : Nat → Nat → Bool} {S : Nat → Bool} {v : Nat}

theorem wk_in {k u : Nat} (h : Wk A S v k u) : S u = true := by
  cases k with
  | zero => obtain ⟨rfl, h⟩ := h; exact h
  | succ k => exact h.1
theorem atD_unique {j k u : Nat} (h : AtD A S v j u) (h' : AtD A S v k u) : j = k := by
  rcases Nat.lt_trichotomy j k with e | e | e
  · exact absurd h.1 (h'.2 j e)
  · exact e
  · exact absurd h'.1 (h.2 k e)
theorem wk_atD : ∀ {k u : Nat}, Wk A S v k u → ∃ j, j ≤ k ∧ AtD A S v j u := by
  intro k
  induction k using Nat.strongRecOn with
  | ind k ih =>
    intro u h
    by_cases hx : ∃ e, e < k ∧ Wk A S v e u
    · obtain ⟨e, he, hw⟩ := hx
      obtain ⟨j, hj, ha⟩ := ih e he hw
      exact ⟨j, by omega, ha⟩
    · exact ⟨k, Nat.le_refl _, h, fun e he hw => hx ⟨e, he, hw⟩⟩
theorem atD_pred {k u : Nat} (h : AtD A S v (k + 1) u) : ∃ w, AtD A S v k w ∧ A w u = true := by
  obtain ⟨⟨hs, w, hw, ha⟩, hn⟩ := h
  refine ⟨w, ⟨hw, fun e he hw' => hn (e + 1) (by omega) ⟨hs, w, hw', ha⟩⟩, ha⟩
theorem atD_succ {k u : Nat} : AtD A S v (k + 1) u ↔ S u = true ∧ (∃ w, AtD A S v k w ∧ A w u = true) ∧ ∀ j, j ≤ k → ¬ AtD A S v j u := by
  constructor
  · intro h
    exact ⟨h.1.1, atD_pred h, fun j hj h' => h.2 j (by omega) h'.1⟩
  · rintro ⟨hs, ⟨w, hw, ha⟩, hn⟩
    refine ⟨⟨hs, w, hw.1, ha⟩, fun e he hw' => ?_⟩
    obtain ⟨j, hj, h'⟩ := wk_atD hw'
    exact hn j (by omega) h'
theorem atD_zero {u : Nat} : AtD A S v 0 u ↔ u = v ∧ S v = true := ⟨fun h => h.1, fun h => ⟨h, fun e he => absurd he (by omega)⟩⟩
theorem atD_chain {k u : Nat} (h : AtD A S v k u) : ∀ j, j ≤ k → ∃ w, AtD A S v j w := by
  induction k generalizing u with
  | zero => intro j hj; obtain rfl : j = 0 := by omega
            exact ⟨u, h⟩
  | succ k ih =>
    intro j hj
    by_cases e : j = k + 1
    · subst e; exact ⟨u, h⟩
    · obtain ⟨w, hw, _⟩ := atD_pred h
      exact ih hw j (by omega)
theorem atD_lt {n : Nat} (hS : ∀ u, S u = true → u < n) {k u : Nat} (h : AtD A S v k u) : k < n := by
  have hc := atD_chain h
  have hf : ∀ j : Nat, ∃ w, j ≤ k → AtD A S v j w := fun j => by
    by_cases hj : j ≤ k
    · obtain ⟨w, hw⟩ := hc j hj; exact ⟨w, fun _ => hw⟩
    · exact ⟨0, fun h => absurd h hj⟩
  obtain ⟨f, hf⟩ := Classical.axiomOfChoice hf
  have hnd : ((List.range (k + 1)).map f).Nodup := by
    rw [List.nodup_iff_pairwise_ne, List.pairwise_map]
    refine List.Pairwise.imp_of_mem ?_ (List.nodup_iff_pairwise_ne.1 List.nodup_range)
    intro a b ha hb hne e
    rw [List.mem_range] at ha hb
    have h1 := hf a (by omega)
    have h2 := hf b (by omega)
    rw [e] at h1
    exact hne (atD_unique h1 h2)
  have := hnd.length_le_of_subset (l₂ := List.range n) (fun x hx => by
    rw [List.mem_map] at hx
    obtain ⟨a, ha, rfl⟩ := hx
    rw [List.mem_range] at ha ⊢
    exact hS _ (wk_in (hf a (by omega)).1))
  simp at this
  omega
end

/-- The distance; -1 where there is no way. -/
noncomputable def dOf (A : Nat → Nat → Bool) (S : Nat → Bool) (v u : Nat) : Int :=
  open Classical in if h : ∃ k, AtD A S v k u then ((Classical.choose h : Nat) : Int) else -1
section
variable {A : Nat → Nat → Bool} {S : Nat → Bool} {v : Nat}
theorem dOf_at {k u : Nat} (h : AtD A S v k u) : dOf A S v u = (k : Int) := by
  have hx : ∃ k, AtD A S v k u := ⟨k, h⟩
  unfold dOf
  rw [dif_pos hx]
  exact congrArg _ (atD_unique (Classical.choose_spec hx) h)
theorem dOf_none {u : Nat} (h : ∀ k, ¬ AtD A S v k u) : dOf A S v u = -1 := by
  unfold dOf
  rw [dif_neg (fun ⟨k, hk⟩ => h k hk)]
theorem dOf_nonneg {u : Nat} : 0 ≤ dOf A S v u ↔ ∃ k, AtD A S v k u := by
  constructor
  · intro h
    rcases Classical.em (∃ k, AtD A S v k u) with hx | hx
    · exact hx
    · rw [dOf_none (fun k hk => hx ⟨k, hk⟩)] at h; omega
  · rintro ⟨k, hk⟩; rw [dOf_at hk]; omega
theorem dOf_ge (u : Nat) : -1 ≤ dOf A S v u := by
  rcases Classical.em (∃ k, AtD A S v k u) with ⟨k, hk⟩ | hx
  · rw [dOf_at hk]; omega
  · rw [dOf_none (fun k hk => hx ⟨k, hk⟩)]; omega
theorem dOf_lt {n : Nat} (hS : ∀ u, S u = true → u < n) (u : Nat) : dOf A S v u < n ∨ dOf A S v u = -1 := by
  rcases Classical.em (∃ k, AtD A S v k u) with ⟨k, hk⟩ | hx
  · rw [dOf_at hk]; have := atD_lt hS hk; omega
  · rw [dOf_none (fun k hk => hx ⟨k, hk⟩)]; omega
end

/-- The distances of the first n vertices. -/
noncomputable def distL (n : Nat) (A : Nat → Nat → Bool) (S : Nat → Bool) (v : Nat) : List Int := (List.range n).map (dOf A S v)
theorem distL_len (n : Nat) (A : Nat → Nat → Bool) (S : Nat → Bool) (v : Nat) : (distL n A S v).length = n := by simp [distL]
theorem distL_nth {n : Nat} {A : Nat → Nat → Bool} {S : Nat → Bool} {v u : Nat} (h : u < n) : nth (distL n A S v) u = dOf A S v u := by
  rw [nth_eq (by rw [distL_len]; exact h)]; simp [distL]
theorem distL_i64 {n : Nat} {A : Nat → Nat → Bool} {S : Nat → Bool} {v : Nat} (hn : n ≤ 16) (hS : ∀ u, S u = true → u < n) : ∀ x ∈ distL n A S v, I64 x := by
  intro x hx
  simp only [distL, List.mem_map] at hx
  obtain ⟨u, _, rfl⟩ := hx
  have := dOf_lt (A := A) (v := v) hS u
  have := dOf_ge (A := A) (S := S) (v := v) u
  unfold I64; omega

theorem nth_set_same {xs : List Int} {i : Nat} (h : i < xs.length) (x : Int) : nth (xs.set i x) i = x := by
  rw [nth_eq (by rw [List.length_set]; exact h)]; simp
theorem nth_set_other {xs : List Int} {i j : Nat} (hne : i ≠ j) (x : Int) : nth (xs.set i x) j = nth xs j := by
  simp [nth, List.getD_eq_getElem?_getD, hne]
theorem nth_append_lt {xs ys : List Int} {i : Nat} (h : i < xs.length) : nth (xs ++ ys) i = nth xs i := by
  simp [nth, List.getD_eq_getElem?_getD, List.getElem?_append_left h]
theorem nth_append_at (xs : List Int) (x : Int) : nth (xs ++ [x]) xs.length = x := by simp [nth]

/-- A search by a queue, half done: the first i that were met are served. -/
structure Bfs (A : Nat → Nat → Bool) (S : Nat → Bool) (v n : Nat) (out met : List Int) (i : Nat) : Prop where
  len : out.length = n
  rng : ∀ x ∈ met, 0 ≤ x ∧ x < (n : Int)
  nodup : met.Nodup
  src : v < n ∧ 0 ≤ nth out v
  neg : ∀ u, u < n → nth out u < 0 → nth out u = -1
  mem : ∀ u, u < n → (0 ≤ nth out u ↔ (u : Int) ∈ met)
  dist : ∀ u, u < n → 0 ≤ nth out u → AtD A S v (nth out u).toNat u
  mono : ∀ a b, a ≤ b → b < met.length → nth out (nth met a).toNat ≤ nth out (nth met b).toNat
  near : ∀ b, b < met.length → i < met.length → nth out (nth met b).toNat ≤ nth out (nth met i).toNat + 1
  done : ∀ a, a < i → ∀ u, u < n → A (nth met a).toNat u = true → S u = true → 0 ≤ nth out u
  le : i ≤ met.length

namespace Bfs
variable {A : Nat → Nat → Bool} {S : Nat → Bool} {v n : Nat} {out met : List Int} {i : Nat}
theorem at_lt (h : Bfs A S v n out met i) {a : Nat} (ha : a < met.length) : 0 ≤ nth met a ∧ nth met a < (n : Int) := h.rng _ (nth_mem ha)
theorem out_nonneg (h : Bfs A S v n out met i) {a : Nat} (ha : a < met.length) : 0 ≤ nth out (nth met a).toNat := by
  have := h.at_lt ha
  rw [h.mem _ (by omega)]
  rw [show (((nth met a).toNat : Nat) : Int) = nth met a from by omega]
  exact nth_mem ha
theorem met_le (h : Bfs A S v n out met i) : met.length ≤ n := by
  have := h.nodup.length_le_of_subset (l₂ := (List.range n).map (fun i : Nat => (i : Int))) (fun x hx => by
    have := h.rng x hx
    rw [List.mem_map]
    exact ⟨x.toNat, by rw [List.mem_range]; omega, by omega⟩)
  simpa using this
theorem idx (h : Bfs A S v n out met i) {u : Nat} (hu : u < n) (h0 : 0 ≤ nth out u) : ∃ a, a < met.length ∧ nth met a = (u : Int) := by
  obtain ⟨a, ha, e⟩ := List.getElem_of_mem ((h.mem u hu).1 h0)
  exact ⟨a, ha, by rw [nth_eq ha]; exact e⟩
/-- Whatever is no farther than the one that is being served has been met. -/
theorem met_of (h : Bfs A S v n out met i) (hS : ∀ u, S u = true → u < n) (d : Int) (hd : i < met.length → d ≤ nth out (nth met i).toNat) : ∀ (e u : Nat), (i < met.length → (e : Int) ≤ d) → Wk A S v e u → 0 ≤ nth out u := by
  intro e
  induction e with
  | zero => rintro u _ ⟨rfl, _⟩; exact h.src.2
  | succ e ih =>
    rintro u he ⟨hs, w, hw, ha⟩
    have hwn := hS w (wk_in hw)
    have h0 := ih w (fun hi => by have := he hi; omega) hw
    have hat := h.dist w hwn h0
    obtain ⟨a, hal, hae⟩ := h.idx hwn h0
    have hle : (nth out w).toNat ≤ e := Nat.le_of_not_lt fun hlt => hat.2 e hlt hw
    refine h.done a ?_ u (hS u hs) (by rw [hae]; exact ha) hs
    rcases Nat.lt_or_ge a i with hai | hai
    · exact hai
    · exfalso
      have h1 := h.mono i a hai hal
      have h2 := hd (by omega)
      have h3 := he (by omega)
      rw [hae] at h1
      simp at h1
      omega
theorem start (hv : v < n) (hs : S v = true) : Bfs A S v n ((List.replicate n (-1)).set v 0) [(v : Int)] 0 := by
  have hnth : ∀ u, u < n → nth ((List.replicate n (-1)).set v 0) u = if u = v then 0 else -1 := by
    intro u hu
    by_cases e : u = v
    · subst e; rw [nth_set_same (by simpa using hv), if_pos rfl]
    · rw [nth_set_other (by omega), if_neg e, nth_eq (by simpa using hu)]; simp
  refine ⟨by simp, ?_, by simp, ⟨hv, by rw [hnth v hv, if_pos rfl]; omega⟩, ?_, ?_, ?_, ?_, ?_, ?_, by simp⟩
  · intro x hx; simp at hx; subst hx; omega
  · intro u hu h; rw [hnth u hu] at h ⊢; by_cases e : u = v
    · rw [if_pos e] at h; omega
    · rw [if_neg e]
  · intro u hu; rw [hnth u hu]; by_cases e : u = v
    · subst e; simp
    · rw [if_neg e]; simp; omega
  · intro u hu h; rw [hnth u hu] at h ⊢; by_cases e : u = v
    · rw [if_pos e]; exact atD_zero.2 ⟨e, hs⟩
    · rw [if_neg e] at h; omega
  · intro a b hab hb; simp at hb; obtain rfl : a = b := by omega
    exact Int.le_refl _
  · intro b hb _; simp at hb; subst hb; omega
  · intro a ha; omega
theorem add (h : Bfs A S v n out met i) (hS : ∀ u, S u = true → u < n) (hi : i < met.length) {u : Nat} (hu : u < n) (ha : A (nth met i).toNat u = true) (hs : S u = true) (hn : nth out u < 0) :
    Bfs A S v n (out.set u (nth out (nth met i).toNat + 1)) (met ++ [(u : Int)]) i := by
  obtain ⟨m, hm⟩ : ∃ m, m = (nth met i).toNat := ⟨_, rfl⟩
  rw [← hm] at ha ⊢
  have hmi := h.at_lt hi
  have hml : m < n := by omega
  have hm0 : 0 ≤ nth out m := by rw [hm]; exact h.out_nonneg hi
  have hum : u ≠ m := fun e => by rw [e] at hn; omega
  have hul : u < out.length := by rw [h.len]; exact hu
  have hnm : (u : Int) ∉ met := fun hx => by have := (h.mem u hu).2 hx; omega
  have hset : ∀ x, nth (out.set u (nth out m + 1)) x = if x = u then nth out m + 1 else nth out x := by
    intro x
    by_cases e : x = u
    · subst e; rw [nth_set_same hul, if_pos rfl]
    · rw [nth_set_other (fun e' => e e'.symm), if_neg e]
  have hmet : ∀ a, a < met.length → nth (met ++ [(u : Int)]) a = nth met a := fun a ha => nth_append_lt ha
  have hmu : ∀ a, a < met.length → (nth met a).toNat ≠ u := fun a ha e => by
    have h1 := h.at_lt ha
    apply hnm
    rw [← e, show (((nth met a).toNat : Nat) : Int) = nth met a from by omega]
    exact nth_mem ha
  have hold : ∀ a, a < met.length → nth (out.set u (nth out m + 1)) (nth (met ++ [(u : Int)]) a).toNat = nth out (nth met a).toNat := fun a ha => by
    rw [hmet a ha, hset, if_neg (hmu a ha)]
  have hnew : nth (out.set u (nth out m + 1)) (nth (met ++ [(u : Int)]) met.length).toNat = nth out m + 1 := by
    rw [nth_append_at, hset]; simp
  have hatm := h.dist m hml hm0
  have hatu : AtD A S v ((nth out m).toNat + 1) u := by
    refine ⟨⟨hs, m, hatm.1, ha⟩, fun e he hw => ?_⟩
    have := h.met_of hS (nth out m) (fun _ => by rw [← hm]; exact Int.le_refl _) e u (fun _ => by omega) hw
    omega
  refine ⟨by rw [List.length_set]; exact h.len, ?_, ?_, ⟨h.src.1, ?_⟩, ?_, ?_, ?_, ?_, ?_, ?_, ?_⟩
  · intro x hx
    rcases List.mem_append.1 hx with hx | hx
    · exact h.rng x hx
    · simp at hx; subst hx; omega
  · rw [List.nodup_append]
    refine ⟨h.nodup, by simp, fun a ha b hb => ?_⟩
    simp at hb; subst hb
    intro e; subst e; exact hnm ha
  · rw [hset]; split
    · omega
    · exact h.src.2
  · intro x hx hxn; rw [hset] at hxn ⊢; split at hxn
    · omega
    · rename_i hne; rw [if_neg hne]; exact h.neg x hx hxn
  · intro x hx
    rw [hset]
    by_cases e : x = u
    · subst e; simp; omega
    · rw [if_neg e, h.mem x hx, List.mem_append]
      simp only [List.mem_singleton]
      constructor
      · exact fun hh => .inl hh
      · rintro (hh | hh)
        · exact hh
        · exact absurd (by omega) e
  · intro x hx hx0
    rw [hset] at hx0 ⊢
    by_cases e : x = u
    · rw [if_pos e, e]
      rw [show (nth out m + 1).toNat = (nth out m).toNat + 1 from by omega]
      exact hatu
    · rw [if_neg e] at hx0 ⊢; exact h.dist x hx hx0
  · intro a b hab hb
    simp at hb
    by_cases e : b = met.length
    · subst e
      rw [hnew]
      by_cases e2 : a = met.length
      · subst e2; rw [hnew]; exact Int.le_refl _
      · rw [hold a (by omega)]
        have := h.near a (by omega) hi
        rw [← hm] at this; exact this
    · rw [hold a (by omega), hold b (by omega)]
      exact h.mono a b hab (by omega)
  · intro b hb _
    simp at hb
    rw [hold i hi, ← hm]
    by_cases e : b = met.length
    · subst e; rw [hnew]; exact Int.le_refl _
    · rw [hold b (by omega)]
      have := h.near b (by omega) hi
      rw [← hm] at this; exact this
  · intro a hai x hx hax hsx
    rw [hmet a (by omega)] at hax
    have := h.done a hai x hx hax hsx
    rw [hset]; split
    · omega
    · exact this
  · simp; have := h.le; omega
theorem next (h : Bfs A S v n out met i) (hi : i < met.length) (hd : ∀ u, u < n → A (nth met i).toNat u = true → S u = true → 0 ≤ nth out u) : Bfs A S v n out met (i + 1) := by
  refine ⟨h.len, h.rng, h.nodup, h.src, h.neg, h.mem, h.dist, h.mono, ?_, ?_, hi⟩
  · intro b hb hi2
    have h1 := h.near b hb hi
    have h2 := h.mono i (i + 1) (by omega) hi2
    omega
  · intro a ha u hu hau hsu
    by_cases e : a = i
    · subst e; exact hd u hu hau hsu
    · exact h.done a (by omega) u hu hau hsu
theorem finish (h : Bfs A S v n out met met.length) (hS : ∀ u, S u = true → u < n) : out = distL n A S v := by
  apply nth_ext (by rw [h.len, distL_len])
  intro u hu
  rw [h.len] at hu
  rw [distL_nth hu]
  rcases Classical.em (∃ k, AtD A S v k u) with ⟨k, hk⟩ | hx
  · have h0 := h.met_of hS k (fun hh => by omega) k u (fun _ => Int.le_refl _) hk.1
    have := atD_unique (h.dist u hu h0) hk
    rw [dOf_at hk]; omega
  · rw [dOf_none (fun k hk => hx ⟨k, hk⟩)]
    refine h.neg u hu ?_
    rcases Int.lt_or_le (nth out u) 0 with h1 | h1
    · exact h1
    · exact absurd ⟨_, h.dist u hu h1⟩ hx
end Bfs

theorem distL_off (n : Nat) {A : Nat → Nat → Bool} {S : Nat → Bool} {v : Nat} (h : S v = false) : distL n A S v = List.replicate n (-1) := by
  have hw : ∀ k u, ¬ Wk A S v k u := by
    intro k
    induction k with
    | zero => rintro u ⟨_, h'⟩; rw [h] at h'; cases h'
    | succ k ih => rintro u ⟨_, w, hw, _⟩; exact ih w hw
  apply List.ext_getElem (by simp [distL])
  intro i h1 h2
  simp only [distL, List.getElem_map, List.getElem_range, List.getElem_replicate]
  exact dOf_none (fun k hk => hw k i hk.1)

end Go.Proofs.YtohjfcfcopbmoaaGreatDoor
