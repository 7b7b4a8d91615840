/- Walks: a link more at the end (l9Link of the model). -/
import Derived.Test.YtohjfcfcopbmoaaDE2
import Derived.Test.YtohjfcfcopbmoaaG1
import Derived.IntWalk
import Derived.Test.YtohjfcfcopbmoaaDE3
import Derived.Lib.Hide
import Derived.Test.YtohjfcfcopbmoaaQU2
import Derived.Test.YtohjfcfcopbmoaaQJ7
import Derived.Test.YtohjfcfcopbmoaaQF4
import Derived.Deep.RegionHeld3

namespace Go.Proofs.Ytohjfcfcopbmoaa
open Go.RowKit

theorem ownsRowB_keep {w w' : World} {B : Nat} {T : TypeId} {v : Value} {n : Nat} {xs : List Value} (h : w.ownsRow B T 1 v n xs) (hb : Below w.heap.size w w') : w'.ownsRow B T 1 v n xs := by
  refine ⟨h.1, ?_⟩
  rcases h.2 with h1 | ⟨g, cap, cur, e, hgB, hh, r⟩
  · exact Or.inl h1
  · exact Or.inr ⟨g, cap, cur, e, hgB, by rw [hb.block g (Array.getElem?_eq_some_iff.1 hh).1]; exact hh, r⟩
theorem litB (w : World) (x : Value) (T : TypeId) : ∀ j u, ([x] : List Value)[j]? = some u → (w.alloc (.cells #[x] T)).cell? ((⟨w.heap.size, 0, none⟩ : Addr).add j) = some u := World.news_of_block (heap_alloc_new _ _)

set_option maxHeartbeats 2000000 in
/-- Of lists of one length, of which the first is greater where they part: the first is not less. -/
theorem l1LessD_any (v v1 : Value) (xs ys : List Int) (w : World) (h : RowAt w v xs) (h1 : RowAt w v1 ys) (hlex : xs.length = ys.length → ∃ i, i < xs.length ∧ (∀ j, j < i → nth xs j = nth ys j) ∧ nth ys i < nth xs i) :
    Calls Try.prog 58 #[v, v1] w fun e w' => e = .returned (.bool (decide (xs.length < ys.length))) ∧ Drawn w w' := by
  obtain ⟨a0, c0, rfl⟩ := h.slice
  obtain ⟨a1, c1, rfl⟩ := h1.slice
  by_cases hl : xs.length = ys.length
  · obtain ⟨i, hi, heq, hgt⟩ := hlex hl
    obtain ⟨b, o, c, e0, l1, l2, hc⟩ := h.pos (by omega)
    obtain ⟨b1, o1, c1', e1, m1, m2, hc1⟩ := h1.pos (by omega)
    simp only [Value.slice.injEq, true_and] at e0 e1
    obtain ⟨rfl, rfl⟩ := e0
    obtain ⟨rfl, rfl⟩ := e1
    have HC : Hid (∀ j, j < xs.length → w.cell? ⟨b, o + j, none⟩ = some (.int .i64 (nth xs j)) ∧ w.cell? ⟨b1, o1 + j, none⟩ = some (.int .i64 (nth ys j))) := fun j hj => ⟨hc j hj, hc1 j (by omega)⟩
    have HEQ := Lib.hid heq
    have HGT := Lib.hid hgt
    have HL := Lib.hid hl
    rw [← hl] at m1 ⊢
    have q1 : ((xs.length : Int) != (xs.length : Int)) = false := by simp
    have hlm := h.len
    unfold maxLen at hlm
    clear hc hc1 heq hgt hl h h1 hlex
    go_enter Try.func58, Try.ntmps58
    go_wp2_with fail
    go_loopw [5] (fun iv wr => ∃ k : Nat, k ≤ i ∧ iv = .int .i64 k ∧ Drawn w wr) (fun iv _ => xs.length - (intOf iv).toNat)
    case atStart => exact ⟨0, Nat.zero_le _, rfl, Drawn.refl _⟩
    case round =>
      obtain ⟨k, hk, rfl, hd⟩ := hrel
      have hkl : k < xs.length := by omega
      obtain ⟨hx, hy⟩ := HC.out k hkl
      have hx' := cell_drawn hd hx
      have hy' := cell_drawn hd hy
      have HD := Lib.hid hd
      clear hx hy hd
      by_cases hki : k < i
      · rw [HEQ.out k hki] at hx'
        obtain ⟨z, hz⟩ : ∃ z, z = nth ys k := ⟨_, rfl⟩
        rw [← hz] at hx' hy'
        have q2 : (z != z) = false := by simp
        clear hz
        go_wp2
        go_quiet (fail)
        go_wp2
        go_roundw
        case rel => exact ⟨k + 1, by omega, by go_num, HD.out.more _⟩
        case measure => simp [intOf]; omega
      · obtain rfl : k = i := by omega
        have hg := HGT.out
        obtain ⟨z, hz⟩ : ∃ z, z = nth ys k := ⟨_, rfl⟩
        obtain ⟨y, hy⟩ : ∃ y, y = nth xs k := ⟨_, rfl⟩
        rw [← hz, ← hy] at hg
        rw [← hy] at hx'
        rw [← hz] at hy'
        have q2 : (y != z) = true := by rw [bne_iff_ne]; omega
        have q3 : decide (y < z) = false := by rw [decide_eq_false]; omega
        have q4 : ¬ (y < z) := by omega
        clear hz hy
        go_wp2
        go_quiet (fail)
        go_wp2
        go_quiet (fail)
        go_wp2
        go_ret
        exact ⟨ret_bool (by simp), (HD.out.more _).more _⟩
  · have q1 : ((xs.length : Int) != (ys.length : Int)) = true := by rw [bne_iff_ne]; omega
    have HD : Hid (decide ((xs.length : Int) < (ys.length : Int)) = decide (xs.length < ys.length)) := by show _ = _; rw [decide_eq_decide]; omega
    clear hlex h h1
    go_enter Try.func58, Try.ntmps58
    go_wp2
    go_ret
    exact ⟨by first | exact ret_bool HD.out | (simp), Drawn.refl _⟩

/-- Nothing less than link [a, b] stands behind it: its first number is greater than theirs. -/
def FirstLt (L : List (List Int)) (a : Int) : Prop := ∀ i, i < L.length → (nthR L i).length = 2 ∧ nth (nthR L i) 0 < a

set_option maxHeartbeats 4000000 in
set_option maxRecDepth 100000 in
theorem l9LinkE_any (v : Value) (L : List (List Int)) (a b : Int) (B : Nat) (w : World) (h : OwnGrid 2 33 w B v L) (hB : B ≤ w.heap.size) (hab : a < b) (ha : I64 a) (hbI : I64 b) (hl : L.length ≤ 16) (hf : FirstLt L a) :
    Calls Try.prog 38 #[v, .int .i64 a, .int .i64 b] w fun e w' => ∃ m ad c, e = .returned (.slice ad m c) ∧ OwnGrid 2 33 w' B (.slice ad m c) (L ++ [[a, b]]) ∧ (∀ z, (Value.slice ad m c).ownBlock = some z → w.heap.size ≤ z ∧ z < w'.heap.size) ∧ Below w.heap.size w w' := by
  obtain ⟨i0, hi, hz0, hz1, hz2⟩ := info_parts Try.infoR
  obtain ⟨a0, c0, rfl⟩ := h.grid.slice
  obtain ⟨R, _, hR, hRr, hRd⟩ := h
  have HC : Hid (∀ k, k < L.length → ∃ g, a0 = some ⟨g, 0, none⟩ ∧ ∀ W, Below w.heap.size w W → W.cell? ⟨g, k, none⟩ = some (R k)) := fun k hk => by
    rcases hR with ⟨_, e⟩ | ⟨g, cap, cur, e, hg, hh, l1, l2, hs, hc⟩
    · rw [e] at hk; simp at hk
    · simp only [Value.slice.injEq] at e
      refine ⟨g, e.1, fun W hb => cell_keep hb ?_⟩
      rw [cell_of_row w g k cur _ _ hh]
      exact hc k hk
  have HRr := Lib.hid hRr
  have HRd := Lib.hid hRd
  have HF := Lib.hid hf
  have HMX : Hid ((if a < b then a else b) = a ∧ max a b = b) := ⟨if_pos hab, by omega⟩
  obtain ⟨wL, hwL⟩ : ∃ wL, wL = (w.alloc (.cells #[.int .i64 a, .int .i64 b] 2)) := ⟨_, rfl⟩
  obtain ⟨wA, hwA⟩ : ∃ wA, wA = wL.alloc (.cells #[] 33) := ⟨_, rfl⟩
  have hbL : Below w.heap.size w wL := by rw [hwL]; exact (Below.refl _ _).alloc (Nat.le_refl _) _
  have hsL : wL.heap.size = w.heap.size + 1 := by rw [hwL]; simp
  have hbA : Below w.heap.size w wA := by rw [hwA]; exact hbL.alloc (by omega) _
  have hsA : wA.heap.size = w.heap.size + 2 := by rw [hwA]; simp [hsL]
  have HLK : Hid (OwnRow 2 wA w.heap.size (.slice (some ⟨w.heap.size, 0, none⟩) 2 2) [a, b]) := by
    refine Lib.hid (OwnRow.keep (w := wL) ?_ (by rw [hwA]; exact (Below.refl _ _).alloc (Nat.le_refl _) _))
    refine ⟨fun x hx => by simp at hx; rcases hx with rfl | rfl <;> assumption, by simp [maxLen], Or.inr ⟨w.heap.size, 2, #[.int .i64 a, .int .i64 b], rfl, Nat.le_refl _, by rw [hwL]; exact heap_alloc_new _ _, Nat.le_refl _, by unfold maxLen; omega, rfl, fun i hi => ?_⟩⟩
    match i, hi with
    | 0, _ => rfl
    | 1, _ => rfl
  have HO0 : Hid (wA.ownsRow (w.heap.size + 1) 33 1 (.slice (some ⟨w.heap.size + 1, 0, none⟩) 0 0) 0 []) := by
    rw [hwA]
    have h1 : (wL.alloc (.cells #[] 33)).ownsRow wL.heap.size 33 1 (.slice (some ⟨wL.heap.size, 0, none⟩) 0 0) 0 [] := World.ownsRow_lit wL #[] 0 (Nat.le_refl _) (Nat.zero_le _) rfl
    rw [hsL] at h1
    exact h1
  have HBA := Lib.hid hbA
  clear hR hRr hRd hf hbL hbA
  go_enter Try.func38, Try.ntmps38
  go_wp2_with fail
  refine (l1Min_any a b w).mono ?_
  rintro e w' ⟨rfl, rfl⟩
  rw [HMX.out.1]
  go_wp2_with fail
  refine (l1MaxD_any a b w).mono ?_
  rintro e w' ⟨rfl, rfl⟩
  rw [HMX.out.2]
  go_wp2_with fail
  rw [← hwL, ← hwA]
  clear hwL hwA hsL
  go_loopw [8, 9, 10] (fun s p i wr => ∃ k : Nat, k ≤ L.length ∧ i = .int .i64 k ∧ p = .bool false ∧ wr.ownsRow (w.heap.size + 1) 33 1 s k ((List.range k).map R) ∧ Below (w.heap.size + 1) wA wr) (fun _ _ i _ => L.length - (intOf i).toNat)
  case atStart => exact ⟨0, Nat.zero_le _, rfl, rfl, HO0.out, Below.refl _ _⟩
  case round =>
    obtain ⟨k, hk, rfl, rfl, ho, hb⟩ := hrel
    have HO := Lib.hid ho
    have HBR := Lib.hid hb
    have HBW : Hid (Below w.heap.size w wr) := HBA.out.trans (hb.mono (by omega))
    have hzr : w.heap.size + 2 ≤ wr.heap.size := by have := hb.size; omega
    clear ho HO0
    by_cases hlt : k < L.length
    · obtain ⟨g, rfl, hcell⟩ := HC.out k hlt
      have hck := hcell wr HBW.out
      have hkI : (k : Int) < (L.length : Int) := by omega
      obtain ⟨h2, hfl⟩ := HF.out k hlt
      have hrow := (HRr.out k hlt).row.keep HBW.out
      obtain ⟨ar, cr, er⟩ := (HRr.out k hlt).row.slice
      rw [h2] at er
      rw [er] at hck hrow
      have HER := Lib.hid er
      clear er
      obtain ⟨x, y, hxy⟩ : ∃ x y, nthR L k = [x, y] := by
        match hnl : nthR L k, h2 with
        | [x, y], _ => exact ⟨x, y, rfl⟩
      rw [hxy] at hrow hfl
      have hxa : x < a := by simpa [nth] using hfl
      have hown : Hid (RowAt wr (.slice (some ⟨w.heap.size, 0, none⟩) 2 2) [a, b]) := by
        have h1 : OwnRow 2 wr w.heap.size (.slice (some ⟨w.heap.size, 0, none⟩) 2 2) [a, b] := by
          obtain ⟨q1, q2, q3⟩ := HLK.out
          refine ⟨q1, q2, ?_⟩
          rcases q3 with ⟨e, _⟩ | ⟨g', cap, cur, e, hg, hh, r⟩
          · cases e
          · simp only [Value.slice.injEq, Option.some.injEq, Addr.mk.injEq, and_true] at e
            obtain ⟨rfl, e2, e3⟩ := e
            exact Or.inr ⟨w.heap.size, cap, cur, by simp [e3], hg, by rw [hb.block _ (by omega)]; exact hh, r⟩
        exact h1.row
      have hlen1 : (L.length : Int) ≤ 16 := by omega
      clear h2 hfl
      go_wp2_with fail
      refine (l1LessD_any _ _ [a, b] [x, y] wr hown.out hrow (fun _ => ⟨0, by simp, fun j hj => absurd hj (by omega), by simpa [nth] using hxa⟩)).mono ?_
      rintro e w5 ⟨rfl, hd5⟩
      rw [show decide (([a, b] : List Int).length < ([x, y] : List Int).length) = false from rfl]
      have HO5 := Lib.hid (ownsRowB_keep HO.out (hd5.below _))
      have HB5 : Hid (Below (w.heap.size + 1) wA w5) := HBR.out.trans (hd5.below _)
      have hz5 : w.heap.size + 2 ≤ w5.heap.size := by have := (hd5.below 0).size; omega
      have hck5 := cell_drawn hd5 hck
      clear hd5 hck hrow hb
      go_wp2_with (at_builtin; refine wpList_append_own _ rfl (.tmp 39) (.tmp 44) 22 rfl (w.heap.size + 1) 33 i0 (.slice none 0 0) 1 24 Try.underlying22 hi hz0 hz1 hz2 rfl (by decide) _ _ _ rfl (HO5.out.alloc _) ⟨w5.heap.size, 0, none⟩ 1 1 [.slice ar 2 cr] rfl rfl (litB _ _ _) (fun u hu => by rw [List.mem_singleton] at hu; subst hu; rfl) ?d3 ?d4 ?d5 ?_)
      case d3 => unfold maxLen; omega
      case d4 => omega
      case d5 => simp; omega
      intro v6 w6 hown6 hgrow6 _
      have HO6 : Hid (w6.ownsRow (w.heap.size + 1) 33 1 v6 (k + 1) ((List.range (k + 1)).map R)) := by
        rw [List.range_succ, List.map_append, List.map_singleton, HER.out]; exact hown6
      have HB6 : Hid (Below (w.heap.size + 1) wA w6) := (HB5.out.alloc (by omega) _).grown hgrow6 (by simp; omega) (fun j hj => (HO5.out.lt j hj).1)
      clear hown6 hgrow6 hck5
      go_wp2
      go_roundw
      case rel => exact ⟨k + 1, by omega, by go_num, rfl, HO6.out, HB6.out⟩
      case measure => simp [intOf]; omega
    · obtain rfl : k = L.length := by omega
      have hlen1 : (L.length : Int) ≤ 16 := by omega
      have HLR : Hid (OwnRow 2 wr w.heap.size (.slice (some ⟨w.heap.size, 0, none⟩) 2 2) [a, b]) := by
        obtain ⟨q1, q2, q3⟩ := HLK.out
        refine ⟨q1, q2, ?_⟩
        rcases q3 with ⟨e, _⟩ | ⟨g', cap, cur, e, hg, hh, r⟩
        · cases e
        · simp only [Value.slice.injEq, Option.some.injEq, Addr.mk.injEq, and_true] at e
          obtain ⟨rfl, e2, e3⟩ := e
          exact Or.inr ⟨w.heap.size, cap, cur, by simp [e3], hg, by rw [hb.block _ (by omega)]; exact hh, r⟩
      clear hb
      go_wp2_with (at_builtin; refine wpList_append_own _ rfl (.tmp 48) (.tmp 50) 22 rfl (w.heap.size + 1) 33 i0 (.slice none 0 0) 1 24 Try.underlying22 hi hz0 hz1 hz2 rfl (by decide) _ _ _ rfl (HO.out.alloc _) ⟨wr.heap.size, 0, none⟩ 1 1 [.slice (some ⟨w.heap.size, 0, none⟩) 2 2] rfl rfl (litB _ _ _) (fun u hu => by rw [List.mem_singleton] at hu; subst hu; rfl) ?d3 ?d4 ?d5 ?_)
      case d3 => unfold maxLen; omega
      case d4 => omega
      case d5 => simp; omega
      intro v6 w6 hown6 hgrow6 _
      have hb6 : Below (w.heap.size + 1) wr w6 := ((Below.refl _ _).alloc (by omega) _).grown hgrow6 (by simp; omega) (fun j hj => (HO.out.lt j hj).1)
      have HB6 : Hid (Below w.heap.size w w6) := HBW.out.trans (hb6.mono (by omega))
      have hzz : w.heap.size ≤ w6.heap.size := HB6.out.size
      obtain ⟨R2, hR2⟩ : ∃ R2 : Nat → Value, R2 = fun i => if i < L.length then R i else .slice (some ⟨w.heap.size, 0, none⟩) 2 2 := ⟨_, rfl⟩
      have hR2a : ∀ i, i < L.length → R2 i = R i := fun i hi => by rw [hR2]; exact if_pos hi
      have hR2b : R2 L.length = .slice (some ⟨w.heap.size, 0, none⟩) 2 2 := by rw [hR2]; exact if_neg (by omega)
      have hmap : (List.range (L.length + 1)).map R2 = (List.range L.length).map R ++ [.slice (some ⟨w.heap.size, 0, none⟩) 2 2] := by
        rw [List.range_succ, List.map_append, List.map_singleton, hR2b]
        congr 1
        exact List.map_congr_left (fun i hi => hR2a i (List.mem_range.1 hi))
      have hlen2 : (L ++ [[a, b]]).length = L.length + 1 := by simp
      have hrl : OwnRow 2 w6 w.heap.size (.slice (some ⟨w.heap.size, 0, none⟩) 2 2) [a, b] := by
        obtain ⟨q1, q2, q3⟩ := HLR.out
        refine ⟨q1, q2, ?_⟩
        rcases q3 with ⟨e, _⟩ | ⟨g', cap, cur, e, hg, hh, r⟩
        · cases e
        · simp only [Value.slice.injEq, Option.some.injEq, Addr.mk.injEq, and_true] at e
          obtain ⟨rfl, e2, e3⟩ := e
          exact Or.inr ⟨w.heap.size, cap, cur, by simp [e3], hg, by rw [hb6.block _ (by omega)]; exact hh, r⟩
      have HOG : Hid (OwnGrid 2 33 w6 B v6 (L ++ [[a, b]])) := by
        refine OwnGrid.of_owns (R := R2) (by rw [hlen2]; unfold maxLen; omega) ?_ ?_ ?_
        · rw [hlen2, hmap]
          obtain ⟨z1, z2⟩ := hown6
          refine ⟨z1, ?_⟩
          rcases z2 with z2 | ⟨g, cap, cur, e, hg, r⟩
          · exact Or.inl z2
          · exact Or.inr ⟨g, cap, cur, e, by omega, r⟩
        · intro i hi
          rw [hlen2] at hi
          by_cases hiL : i < L.length
          · rw [hR2a i hiL, show nthR (L ++ [[a, b]]) i = nthR L i by simp [nthR, hiL, List.getElem?_append_left]]
            exact (HRr.out i hiL).keep HB6.out
          · obtain rfl : i = L.length := by omega
            rw [hR2b, show nthR (L ++ [[a, b]]) L.length = [a, b] by simp [nthR]]
            exact hrl.mono hB
        · intro i j q hij hj hq
          rw [hlen2] at hj
          by_cases hjL : j < L.length
          · rw [hR2a i (by omega)] at hq
            rw [hR2a j hjL]
            exact HRd.out i j q hij hjL hq
          · obtain rfl : j = L.length := by omega
            rw [hR2a i (by omega)] at hq
            rw [hR2b]
            have h9 := (HRr.out i (by omega)).lt q hq
            intro e
            simp [Value.ownBlock] at e
            omega
      obtain ⟨ad, cc, e6⟩ := HOG.out.grid.slice
      subst e6
      have HNB : Hid (∀ z, (Value.slice ad (L ++ [[a, b]]).length cc).ownBlock = some z → w.heap.size ≤ z ∧ z < w6.heap.size) := fun z hz => by
        rcases hown6.2 with ⟨e, _⟩ | ⟨g, cap, cur, e, hg, hh, _⟩
        · rw [e] at hz; simp [Value.ownBlock] at hz
        · rw [e] at hz
          simp [Value.ownBlock] at hz
          subst hz
          exact ⟨by omega, (Array.getElem?_eq_some_iff.1 hh).1⟩
      clear hown6 hgrow6 hb6 hR2 hR2a hR2b hmap hlen2 hrl
      go_wp2
      go_ret
      exact ⟨_, _, _, rfl, HOG.out, HNB.out, HB6.out⟩

end Go.Proofs.Ytohjfcfcopbmoaa
