/- The texts CN5, CN9, joined. -/
import Derived.Test.YtgeifbgjfbfcfaaQCN1
import Derived.Test.YtgeifbgjfbfcfaaQC6
import Derived.Test.YtgeifbgjfbfcfaaQEM3
import Derived.Test.YtgeifbgjfbfcfaaQU2
import Derived.Deep.RegionHeld3
import Derived.Test.YtgeifbgjfbfcfaaQD5
import Derived.BigQuiet

/- Walks: which of two lists of one length comes first; what a vertex adds to the code, of the model. -/
namespace Go.Proofs.Ytgeifbgjfbfcfaa
open Go.RowKit

set_option maxHeartbeats 2000000 in
set_option maxRecDepth 100000 in
theorem l1LessLex_any (v v1 : Value) (xs ys : List Int) (w : World) (h : RowAt w v xs) (h1 : RowAt w v1 ys) (hl : xs.length = ys.length) :
    Calls Try.prog 95 #[v, v1] w fun e w' => ∃ b : Bool, e = .returned (.bool b) ∧ (b = true ↔ LexLt xs ys) ∧ Drawn w w' := by
  have hlm := h.len
  unfold maxLen at hlm
  obtain ⟨a0, c0, rfl⟩ := h.slice
  obtain ⟨a1, c1, rfl⟩ := h1.slice
  have HR := Lib.hid h
  have HR1 := Lib.hid h1
  have HL := Lib.hid hl
  rw [← hl]
  have q1 : ((xs.length : Int) != (xs.length : Int)) = false := by simp
  clear h h1 hl
  go_enter Try.func95, Try.ntmps95
  go_wp2_with fail
  go_loopw [5] (fun iv wr => ∃ k : Nat, k ≤ xs.length ∧ iv = .int .i64 k ∧ (∀ j, j < k → nth xs j = nth ys j) ∧ Drawn w wr) (fun iv _ => xs.length - (intOf iv).toNat)
  case atStart => exact ⟨0, Nat.zero_le _, rfl, fun j hj => absurd hj (by omega), Drawn.refl _⟩
  case round =>
    obtain ⟨k, hk, rfl, hpre, hd⟩ := hrel
    have HPRE := Lib.hid hpre
    have HD := Lib.hid hd
    clear hpre
    by_cases hlt : k < xs.length
    · obtain ⟨b, o, c, e1, l1, l2, hc⟩ := HR.out.pos (by omega)
      simp only [Value.slice.injEq, true_and] at e1
      obtain ⟨rfl, rfl⟩ := e1
      obtain ⟨b', o', c', e2, l3, l4, hc'⟩ := HR1.out.pos (by rw [← HL.out]; omega)
      rw [← HL.out] at e2
      simp only [Value.slice.injEq, true_and] at e2
      obtain ⟨rfl, rfl⟩ := e2
      have hx' := cell_drawn hd (hc k hlt)
      have hy' := cell_drawn hd (hc' k (by rw [← HL.out]; exact hlt))
      obtain ⟨y, hy⟩ : ∃ y, nth xs k = y := ⟨_, rfl⟩
      obtain ⟨z, hz⟩ : ∃ z, nth ys k = z := ⟨_, rfl⟩
      rw [hy] at hx'
      rw [hz] at hy'
      have HX := Lib.hid hy
      have HY := Lib.hid hz
      have hkI : (k : Int) < (xs.length : Int) := by omega
      clear hc hc' hy hz hd
      by_cases hyz : y = z
      · subst hyz
        have HEQ : Hid (∀ j, j < k + 1 → nth xs j = nth ys j) := fun j hj => by
          rcases Nat.lt_succ_iff_lt_or_eq.1 hj with h | rfl
          · exact HPRE.out j h
          · rw [HX.out, HY.out]
        have q2 : (y != y) = false := by simp
        go_wp2
        go_quiet (fail)
        go_wp2
        go_roundw
        case rel => exact ⟨k + 1, by omega, by go_num, HEQ.out, HD.out.more _⟩
        case measure => simp [intOf]; omega
      · have q2 : (y != z) = true := by rw [bne_iff_ne]; exact hyz
        have HF : Hid (LexLt xs ys ↔ y < z) := by
          show _ ↔ _
          constructor
          · intro hlx
            rcases Int.lt_or_gt_of_ne hyz with h | h
            · exact h
            · exact (lex_asymm hlx ⟨k, by rw [← HL.out]; exact hlt, hlt, fun j hj => (HPRE.out j hj).symm, by rw [HX.out, HY.out]; exact h⟩).elim
          · intro h
            exact ⟨k, hlt, by rw [← HL.out]; exact hlt, HPRE.out, by rw [HX.out, HY.out]; exact h⟩
        by_cases hlt2 : y < z
        · have q3 : decide (y < z) = true := decide_eq_true hlt2
          go_wp2
          go_quiet (fail)
          go_wp2
          go_quiet (fail)
          go_wp2
          go_ret
          exact ⟨true, ret_bool (by simp [hlt2]), ⟨fun _ => HF.out.2 hlt2, fun _ => rfl⟩, (HD.out.more _).more _⟩
        · have q3 : decide (y < z) = false := decide_eq_false hlt2
          go_wp2
          go_quiet (fail)
          go_wp2
          go_quiet (fail)
          go_wp2
          go_ret
          exact ⟨false, ret_bool (by simp [hlt2]), ⟨fun h => (by cases h), fun h => (by have := HF.out.1 h; omega)⟩, (HD.out.more _).more _⟩
    · obtain rfl : k = xs.length := by omega
      have HF : Hid (¬ LexLt xs ys) := fun ⟨j, h1, _, _, h4⟩ => by have := HPRE.out j h1; omega
      clear hd
      go_wp2
      go_ret
      exact ⟨false, rfl, ⟨fun h => (by cases h), fun h => absurd h HF.out⟩, HD.out⟩

theorem row_i64 {A : Nat → Nat → Bool} {xs : List Int} {v : Int} {k : Nat} : ∀ x ∈ codeRow A xs v k, I64 x := fun x hx => by
  have := codeRow_rng A xs v k x hx
  unfold I64
  omega

set_option maxHeartbeats 4000000 in
set_option maxRecDepth 100000 in
theorem l4Row_any (L : List (List Int)) (hG : GraphP L) (a0 : Option Addr) (c0 : Nat) (v1 : Value) (xs : List Int) (q : Nat) (hq : q < L.length) (w : World) (h : GridAt w (.slice a0 L.length c0) L) (hr : RowAt w v1 xs) (hx : ∀ i, i < xs.length → 0 ≤ nth xs i ∧ nth xs i < (L.length : Int)) (hl16 : xs.length ≤ 16) :
    Calls Try.prog 94 #[.agg #[.slice a0 L.length c0], v1, .int .i64 (q : Int)] w (GaveRow w (rowA (adjB L) xs (q : Int))) := by
  obtain ⟨i0, hi, hz0, hz1, hz2⟩ := info_parts Try.infoI
  have hz := hG.1
  obtain ⟨a1, c1, rfl⟩ := hr.slice
  have ha : Below w.heap.size w (w.alloc (.cells #[.slice a0 L.length c0] 26)) := (Below.refl _ _).alloc (Nat.le_refl _) _
  have kg0 : (w.alloc (.cells #[.slice a0 L.length c0] 26)).cell? ⟨w.heap.size, 0, none⟩ = some (.slice a0 L.length c0) := by go_simp
  obtain ⟨w0, hw0⟩ : ∃ w0, w.alloc (.cells #[.slice a0 L.length c0] 26) = w0 := ⟨_, rfl⟩
  rw [hw0] at ha kg0
  have HW0 := Lib.hid hw0
  have HA := Lib.hid ha
  have hzw : w.heap.size ≤ w0.heap.size := ha.size
  have KG : Hid (∀ w', Below w0.heap.size w0 w' → w'.cell? ⟨w.heap.size, 0, none⟩ = some (.slice a0 L.length c0)) := fun w' hb => cell_keep hb kg0
  have GK : Hid (∀ w', Below w0.heap.size w0 w' → GridAt w' (.slice a0 L.length c0) L) := fun w' hb => (h.keep ha).keep hb
  have RK : Hid (∀ w', Below w0.heap.size w0 w' → RowAt w' (.slice a1 xs.length c1) xs) := fun w' hb => (hr.keep ha).keep hb
  have hs0 : w0.heap.size = w.heap.size + 1 := by rw [← HW0.out]; simp
  have HO0 : Hid (OwnRow 2 (w0.alloc (.cells #[] 2)) w0.heap.size (.slice (some ⟨w.heap.size + 1, 0, none⟩) 0 0) []) := by
    have := empty_own w0 w0.heap.size (Nat.le_refl _)
    show OwnRow _ _ _ _ _
    rw [← hs0]; exact this
  have HB0 : Hid (Below w0.heap.size w0 (w0.alloc (.cells #[] 2))) := (Below.refl _ _).alloc (Nat.le_refl _) _
  have HX := Lib.hid hx
  have HG := Lib.hid hG
  clear h hr hw0 ha kg0 hs0 hx hG
  go_enter Try.func94, Try.ntmps94
  go_wp2_with fail
  rw [HW0.out]
  go_loopw [7, 8] (fun s i wr => ∃ k : Nat, k ≤ xs.length ∧ i = .int .i64 k ∧ OwnRow 2 wr w0.heap.size s (codeRow (adjB L) xs (q : Int) k) ∧ Below w0.heap.size w0 wr) (fun _ i _ => xs.length - (intOf i).toNat)
  case atStart => exact ⟨0, Nat.zero_le _, rfl, by rw [codeRow_zero]; exact HO0.out, HB0.out⟩
  case round =>
    clear HO0 HB0
    obtain ⟨k, hk, rfl, ho, hb⟩ := hrel
    obtain ⟨a3, c3, e3⟩ := ho.row.slice
    subst e3
    by_cases hlt : k < xs.length
    · obtain ⟨b, o, c, e1, l1, l2, hc⟩ := (RK.out _ hb).pos (by omega)
      simp only [Value.slice.injEq, true_and] at e1
      obtain ⟨rfl, rfl⟩ := e1
      have hck := hc k hlt
      have hxk := HX.out k hlt
      obtain ⟨u, hu⟩ : ∃ u : Nat, nth xs k = (u : Int) := ⟨(nth xs k).toNat, by omega⟩
      rw [hu] at hck hxk
      have kg := KG.out _ hb
      have HS : Hid (codeRow (adjB L) xs (q : Int) (k + 1) = codeRow (adjB L) xs (q : Int) k ++ [flagI (hasB (nthR L u) (q : Int))]) := by
        show _ = _
        rw [codeRow_succ _ _ hlt, hu, Int.toNat_natCast, Int.toNat_natCast, adjB_has HG.out (by omega) (by omega)]
      have hcl : (codeRow (adjB L) xs (q : Int) k).length ≤ 16 := Nat.le_trans (codeRow_len _ _ _ _) (by omega)
      obtain ⟨R, hR⟩ : ∃ R, codeRow (adjB L) xs (q : Int) k = R := ⟨_, rfl⟩
      have HI64 : Hid (∀ x ∈ codeRow (adjB L) xs (q : Int) (k + 1), I64 x) := row_i64
      rw [hR] at ho hcl HS ⊢
      obtain ⟨E, hE⟩ : ∃ E, hasB (nthR L u) (q : Int) = E := ⟨_, rfl⟩
      rw [hE] at HS
      have hbd : Below wr.heap.size wr wr.drew := (Below.refl _ _).drew
      have HE1 : Hid (Calls Try.prog 61 #[.agg #[.slice a0 L.length c0], .int .i64 (u : Int), .int .i64 (q : Int)] wr.drew fun e w' => e = .returned (.bool E) ∧ Below wr.heap.size wr w') :=
        (l1Edge_any _ L (u : Int) (q : Int) _ (GK.out _ (hb.trans (hbd.mono hb.size))) (by omega) (by omega)).mono fun e w' ⟨h1, h2⟩ => ⟨by rw [h1, Int.toNat_natCast, hE], hbd.trans h2⟩
      have KS : Hid (∀ w', Below wr.heap.size wr w' → w'.cell? ⟨w.heap.size, 0, none⟩ = some (.slice a0 L.length c0) ∧ w'.cell? ⟨b, o + k, none⟩ = some (.int .i64 (u : Int))) := fun w' h => ⟨cell_keep h kg, cell_keep h hck⟩
      have KG2 : Hid (∀ w', Below w0.heap.size w0 w' → w'.cell? ⟨w.heap.size, 0, none⟩ = some (.slice a0 L.length c0) ∧ w'.cell? ⟨b, o + k, none⟩ = some (.int .i64 (u : Int))) := fun w' hb' => by
        obtain ⟨b', o', c', e', _, _, hc'⟩ := (RK.out _ hb').pos (by omega)
        simp only [Value.slice.injEq, Option.some.injEq, Addr.mk.injEq, true_and, and_true] at e'
        obtain ⟨⟨rfl, rfl⟩, _⟩ := e'
        refine ⟨KG.out _ hb', ?_⟩
        have := hc' k hlt
        rwa [hu] at this
      have HO := Lib.hid ho
      have HB := Lib.hid hb
      have hzr : w0.heap.size ≤ wr.heap.size := hb.size
      have hkI : (k : Int) < (xs.length : Int) := by omega
      clear hc hu ho hb hR hbd hE
      go_wp2_with fail
      go_region_held3 (fun wy => wy.cell? ⟨w.heap.size, 0, none⟩ = some (.slice a0 L.length c0) ∧ wy.cell? ⟨b, o + k, none⟩ = some (.int .i64 (u : Int))) (first | with_reducible exact ⟨kg, hck⟩ | with_reducible exact KS.out _ (Below.refl _ _).drew | with_reducible exact KS.out _ HB5.out | with_reducible exact KS.out _ (HB5.out.alloc HB5.out.size _) | with_reducible exact KG2.out _ HB6.out)
        (first
          | (go_at_call 61; with_reducible refine HE1.out.mono ?_; rintro e w5 ⟨rfl, hb5⟩; have HB5 := Lib.hid hb5; have HO5 := Lib.hid (HO.out.keep hb5); have hz5 := hb5.size; clear hb5)
          | (go_at_call 60; with_reducible refine (l1Flag_any _ _).mono ?_; rintro e w' ⟨rfl, rfl⟩)
          | (refine step_append_own _ (by rfl) (.tmp 16) (.tmp 25) 29 (by rfl) w0.heap.size 2 i0 (.int .i64 0) 1 8 Try.underlying29 hi hz0 hz1 hz2 rfl (by omega) (.slice a3 R.length c3) _ _ (by rfl) (HO5.out.owns.alloc _) ⟨w5.heap.size, 0, none⟩ 1 1 [.int .i64 (flagI E)] (by rfl) (by rfl) (lit1 _ _ _) (one1 _) (by unfold maxLen; omega) (by omega) (by simp; omega) ?_; intro v6 w6 hown6 hgrow6; have HB6 : Hid (Below w0.heap.size w0 w6) := (((HB.out.trans (HB5.out.mono hzr)).alloc (Nat.le_trans hzr hz5) _).grown hgrow6 (by simp; omega) (fun j hj => (HO5.out.lt j hj).1)); have HO6 : Hid (OwnRow 2 w6 w0.heap.size v6 (codeRow (adjB L) xs (q : Int) (k + 1))) := (by have hh := HI64.out; show OwnRow _ _ _ _ _; rw [HS.out] at hh ⊢; exact OwnRow.of_ownsRow (n := R.length + 1) (by simpa using hown6) (by simp; unfold maxLen; omega) hh); clear hown6 hgrow6))
      all_goals (
        go_wp2
        go_roundw
        case rel => exact ⟨k + 1, by omega, by go_num, HO6.out, HB6.out⟩
        case measure => simp [intOf]; omega)
    · obtain rfl : k = xs.length := by omega
      have HF : Hid (GaveRow w (rowA (adjB L) xs (q : Int)) (.returned (.slice a3 (codeRow (adjB L) xs (q : Int) xs.length).length c3)) wr) := ⟨_, _, _, rfl, ho.mono hzw, HA.out.trans (hb.mono hzw)⟩
      clear ho hb
      go_wp2
      go_ret
      exact HF.out

end Go.Proofs.Ytgeifbgjfbfcfaa

/- Walks: the lists of the least code, of the model. -/
namespace Go.Proofs.Ytgeifbgjfbfcfaa
open Go.RowKit

/-- A pair put together. -/
def snocP (p : List Int × Nat) : List Int := p.1 ++ [(p.2 : Int)]
/-- The lists so far. -/
noncomputable def moreL (A : Nat → Nat → Bool) (F : List (List Int × Nat)) : List (List Int) := (lightP A F).map snocP
theorem moreL_nil (A : Nat → Nat → Bool) : moreL A [] = [] := by simp [moreL, lightP]
theorem moreL_len (A : Nat → Nat → Bool) (F : List (List Int × Nat)) : (moreL A F).length ≤ F.length := by unfold moreL; rw [List.length_map]; exact light_len A F
theorem moreL_pos {A : Nat → Nat → Bool} {k : Nat} {F : List (List Int × Nat)} (h : F ≠ []) (hl : ∀ p ∈ F, p.1.length = k) : 0 < (moreL A F).length := by
  unfold moreL
  rw [List.length_map]
  obtain ⟨p, hp, hm⟩ := light_some (A := A) h hl
  exact List.length_pos_of_mem (light_mem.2 ⟨hp, hm⟩)
/-- What the row of the next pair does to the lists, behind the test whether it is less. -/
def NextP (A : Nat → Nat → Bool) (F : List (List Int × Nat)) (p : List Int × Nat) (M : List (List Int)) (lr : List Int) : Prop :=
  LeastP A (F ++ [p]) lr ∧ moreL A (F ++ [p]) = if prow A p = lr then M ++ [snocP p] else M
theorem next_reset {A : Nat → Nat → Bool} {k : Nat} {F : List (List Int × Nat)} {lr : List Int} {p : List Int × Nat} (hl : ∀ q ∈ F, q.1.length = k) (hp : p.1.length = k) (h : F = [] ∨ (LeastP A F lr ∧ LexLt (prow A p) lr)) : NextP A F p [] (prow A p) := by
  rcases h with rfl | ⟨h1, h2⟩
  · refine ⟨least_first A p, ?_⟩
    rw [if_pos rfl]; unfold moreL; rw [List.nil_append, light_first]; rfl
  · refine ⟨least_new h1 h2, ?_⟩
    rw [if_pos rfl]; unfold moreL; rw [light_new hl h1 hp h2]; rfl
theorem next_stay {A : Nat → Nat → Bool} {k : Nat} {F : List (List Int × Nat)} {lr : List Int} {p : List Int × Nat} (hl : ∀ q ∈ F, q.1.length = k) (hp : p.1.length = k) (h1 : LeastP A F lr) (h2 : ¬ LexLt (prow A p) lr) : NextP A F p (moreL A F) lr := by
  refine ⟨least_old h1 h2, ?_⟩
  unfold moreL
  rw [light_same hl h1 hp h2]
  by_cases e : prow A p = lr
  · rw [if_pos e, if_pos e, List.map_append]; rfl
  · rw [if_neg e, if_neg e]
/-- The lists and the least row, where they lie. -/
def MoreAt (A : Nat → Nat → Bool) (w : World) (B : Nat) (mv lv : Value) (F : List (List Int × Nat)) : Prop :=
  OwnGrid 2 29 w B mv (moreL A F) ∧ ∃ lr, OwnRow 2 w B lv lr ∧ (F = [] ∨ LeastP A F lr)

/-- One list, of nothing. -/
theorem own_one_empty (w : World) (B : Nat) (hB : B ≤ w.heap.size) :
    OwnGrid 2 29 ((w.alloc (.cells #[] 2)).alloc (.cells #[.slice (some ⟨w.heap.size, 0, none⟩) 0 0] 29)) B (.slice (some ⟨w.heap.size + 1, 0, none⟩) 1 1) [[]] := by
  have hb : Below (w.alloc (.cells #[] 2)).heap.size (w.alloc (.cells #[] 2)) ((w.alloc (.cells #[] 2)).alloc (.cells #[.slice (some ⟨w.heap.size, 0, none⟩) 0 0] 29)) := (Below.refl _ _).alloc (Nat.le_refl _) _
  refine ⟨fun _ => .slice (some ⟨w.heap.size, 0, none⟩) 0 0, by simp [maxLen], Or.inr ⟨w.heap.size + 1, 1, #[.slice (some ⟨w.heap.size, 0, none⟩) 0 0], rfl, by omega, ?_, by simp, by simp [maxLen], rfl, fun i hi => ?_⟩, fun i hi => ?_, fun i j k hij hj => ?_⟩
  · have := heap_alloc_new (w.alloc (.cells #[] 2)) (.cells #[.slice (some ⟨w.heap.size, 0, none⟩) 0 0] 29)
    rw [size_alloc1] at this
    exact this
  · obtain rfl : i = 0 := by simpa using hi
    rfl
  · obtain rfl : i = 0 := by simpa using hi
    exact (empty_own w B hB).keep hb
  · simp at hj; omega

theorem grid_row {T T1 : TypeId} {w : World} {B : Nat} {v : Value} {L : List (List Int)} (h : OwnGrid T T1 w B v L) : ∃ a c, v = .slice a L.length c := by
  obtain ⟨R, _, h3, _⟩ := h
  rcases h3 with ⟨e, e'⟩ | ⟨g, cap, cur, e, _⟩
  · subst e'; exact ⟨none, 0, e⟩
  · exact ⟨_, _, e⟩

theorem best_in {A : Nat → Nat → Bool} {n k : Nat} (hk : k ≤ n) {xs : List Int} (h : xs ∈ bestTo A n k) : xs.length = k ∧ ∀ i, i < xs.length → 0 ≤ nth xs i ∧ nth xs i < (n : Int) := by
  have := (best_mem hk xs).1 h
  exact ⟨this.2.1, this.1.1⟩
theorem pairs_of {A : Nat → Nat → Bool} {n k : Nat} (hk : k ≤ n) {i v : Nat} (hi : i < (bestTo A n k).length) : ∀ p ∈ pairsTo n (bestTo A n k) i v, p.1.length = k := by
  rintro ⟨xs, u⟩ hp
  unfold pairsTo at hp
  rcases List.mem_append.1 hp with h | h
  · exact (best_in hk (List.mem_of_mem_take (pairs_mem.1 h).1)).1
  · rw [List.mem_map] at h
    obtain ⟨u', _, e⟩ := h
    rw [Prod.mk.injEq] at e
    rw [← e.1]
    have : nthR (bestTo A n k) i ∈ bestTo A n k := by rw [nthR_eq hi]; exact List.getElem_mem _
    exact (best_in hk this).1

theorem own_keep {w w' : World} {B n : Nat} {T : TypeId} {v : Value} {xs : List Value} (h : w.ownsRow B T 1 v n xs) (hb : Below w.heap.size w w') : w'.ownsRow B T 1 v n xs :=
  ⟨h.1, h.2.imp (fun h => h) (fun ⟨g, cap, cur, e, hgB, hh, r⟩ => ⟨g, cap, cur, e, hgB, by rw [hb.block g (Array.getElem?_eq_some_iff.1 hh).1]; exact hh, r⟩)⟩

set_option maxHeartbeats 8000000 in
set_option maxRecDepth 100000 in
theorem l4Best_any (L : List (List Int)) (hG : GraphP L) (h8 : L.length ≤ 8) (a0 : Option Addr) (c0 : Nat) (w : World) (h : GridAt w (.slice a0 L.length c0) L) :
    Calls Try.prog 54 #[.agg #[.slice a0 L.length c0]] w (GaveGrid w (bestTo (adjB L) L.length L.length)) := by
  obtain ⟨i0, hi, hz0, hz1, hz2⟩ := info_parts Try.infoR
  obtain ⟨j0, hj, hy0, hy1, hy2⟩ := info_parts Try.infoI
  have hz := hG.1
  have ha : Below w.heap.size w (w.alloc (.cells #[.slice a0 L.length c0] 26)) := (Below.refl _ _).alloc (Nat.le_refl _) _
  have kg0 : (w.alloc (.cells #[.slice a0 L.length c0] 26)).cell? ⟨w.heap.size, 0, none⟩ = some (.slice a0 L.length c0) := by go_simp
  obtain ⟨w0, hw0⟩ : ∃ w0, w.alloc (.cells #[.slice a0 L.length c0] 26) = w0 := ⟨_, rfl⟩
  have hs0 : w0.heap.size = w.heap.size + 1 := by rw [← hw0, size_alloc1]
  rw [hw0] at ha kg0
  have HW0 := Lib.hid hw0
  have HA := Lib.hid ha
  have hzw : w.heap.size ≤ w0.heap.size := ha.size
  have KG : Hid (∀ w', Below w0.heap.size w0 w' → w'.cell? ⟨w.heap.size, 0, none⟩ = some (.slice a0 L.length c0)) := fun w' hb => cell_keep hb kg0
  have GK : Hid (∀ w', Below w0.heap.size w0 w' → GridAt w' (.slice a0 L.length c0) L) := fun w' hb => (h.keep ha).keep hb
  have HO0 : Hid (OwnGrid 2 29 ((w0.alloc (.cells #[] 2)).alloc (.cells #[.slice (some ⟨w.heap.size + 1, 0, none⟩) 0 0] 29)) w0.heap.size (.slice (some ⟨w.heap.size + 1 + 1, 0, none⟩) 1 1) [[]]) := by
    have := own_one_empty w0 w0.heap.size (Nat.le_refl _)
    show OwnGrid _ _ _ _ _ _
    rw [← hs0]; exact this
  have HB0 : Hid (Below w0.heap.size w0 ((w0.alloc (.cells #[] 2)).alloc (.cells #[.slice (some ⟨w.heap.size + 1, 0, none⟩) 0 0] 29))) := ((Below.refl _ _).alloc (Nat.le_refl _) _).alloc (by simp) _
  have HG := Lib.hid hG
  obtain ⟨A, hA⟩ : ∃ A, adjB L = A := ⟨_, rfl⟩
  have HAE := Lib.hid hA
  rw [hA]
  clear h hw0 ha kg0 hs0 hG hA
  go_enter Try.func54, Try.ntmps54
  go_wp2_with fail
  rw [HW0.out]
  go_loopw [3, 4] (fun bv kv wr => ∃ k : Nat, k ≤ L.length ∧ kv = .int .i64 k ∧ OwnGrid 2 29 wr w0.heap.size bv (bestTo A L.length k) ∧ Below w0.heap.size w0 wr) (fun _ kv _ => L.length - (intOf kv).toNat)
  case atStart => exact ⟨0, Nat.zero_le _, rfl, HO0.out, HB0.out⟩
  case round =>
    clear HO0 HB0
    obtain ⟨k, hk, rfl, hog, hb⟩ := hrel
    have HBR := Lib.hid hb
    have HOG := Lib.hid hog
    have kg := KG.out _ hb
    clear hb hog
    go_wp2_with fail
    refine (l1Size_any _ L _ (GK.out _ HBR.out)).mono ?_
    rintro e w1 ⟨rfl, hb1⟩
    have HB1 : Hid (Below w0.heap.size w0 w1) := HBR.out.trans (hb1.mono HBR.out.size)
    have HOG1 := Lib.hid (HOG.out.keep hb1)
    have hz1' : w0.heap.size ≤ w1.heap.size := HB1.out.size
    clear hb1 kg HBR HOG
    by_cases hlt : k < L.length
    · have hk8 : k < 8 := by omega
      have HBI : Hid (∀ xs ∈ bestTo A L.length k, xs.length = k ∧ ∀ i, i < xs.length → 0 ≤ nth xs i ∧ nth xs i < (L.length : Int)) := fun xs hx => best_in hk hx
      have HPO : Hid (∀ i v, i < (bestTo A L.length k).length → ∀ p ∈ pairsTo L.length (bestTo A L.length k) i v, p.1.length = k) := fun i v h => pairs_of hk h
      have HBS := best_small A (n := L.length) (k := k) h8 (by omega)
      have HNX : Hid (bestTo A L.length (k + 1) = moreL A (pairsL L.length (bestTo A L.length k))) := rfl
      obtain ⟨Bs, hBs⟩ : ∃ Bs, bestTo A L.length k = Bs := ⟨_, rfl⟩
      rw [hBs] at HBI HPO HBS HNX HOG1
      obtain ⟨a3, c3, e3⟩ := grid_row HOG1.out
      subst e3
      clear hBs
      have HM0 : Hid (MoreAt A ((w1.alloc (.cells #[] 29)).alloc (.cells #[] 2)) w1.heap.size (.slice (some ⟨w1.heap.size, 0, none⟩) 0 0) (.slice (some ⟨w1.heap.size + 1, 0, none⟩) 0 0) []) := by
        have hbb : Below (w1.alloc (.cells #[] 29)).heap.size (w1.alloc (.cells #[] 29)) ((w1.alloc (.cells #[] 29)).alloc (.cells #[] 2)) := (Below.refl _ _).alloc (Nat.le_refl _) _
        refine ⟨by rw [moreL_nil]; exact (own_none w1 _ (Nat.le_refl _)).keep hbb, [], ?_, .inl rfl⟩
        have := empty_own (w1.alloc (.cells #[] 29)) w1.heap.size (by rw [size_alloc1]; omega)
        rw [size_alloc1] at this
        exact this
      have HBM : Hid (Below w1.heap.size w1 ((w1.alloc (.cells #[] 29)).alloc (.cells #[] 2))) := ((Below.refl _ _).alloc (Nat.le_refl _) _).alloc (by simp) _
      go_wp2_with fail
      go_loopw [5, 6, 7] (fun mv lv iv wx => ∃ i : Nat, i ≤ Bs.length ∧ iv = .int .i64 i ∧ MoreAt A wx w1.heap.size mv lv (pairsL L.length (Bs.take i)) ∧ Below w1.heap.size w1 wx) (fun _ _ iv _ => Bs.length - (intOf iv).toNat)
      case atStart => exact ⟨0, Nat.zero_le _, rfl, by simpa [pairsL] using HM0.out, HBM.out⟩
      case round =>
        clear HM0 HBM
        rename World => wx
        obtain ⟨i, hil, rfl, hmo, hb⟩ := hrel
        have HMO := Lib.hid hmo
        have HBX := Lib.hid hb
        clear hmo hb
        by_cases hlt2 : i < Bs.length
        · have HX := Lib.hid (HBI.out (nthR Bs i) (by rw [nthR_eq hlt2]; exact List.getElem_mem _))
          have HPI := Lib.hid (HPO.out i · hlt2)
          have HPL : Hid (∀ v, v ≤ L.length → (pairsTo L.length Bs i v).length ≤ 200000000) := fun v hv => by
            have h1 := pairsTo_len (n := L.length) Bs (i := i) hv
            have h2 : (Bs.length + 1) * L.length ≤ (16777216 + 1) * 8 := Nat.mul_le_mul (by omega) h8
            show _ ≤ _; omega
          go_wp2_with fail
          go_loopw [5, 6, 8] (fun mv lv vv wy => ∃ q : Nat, q ≤ L.length ∧ vv = .int .i64 q ∧ MoreAt A wy w1.heap.size mv lv (pairsTo L.length Bs i q) ∧ Below w1.heap.size w1 wy) (fun _ _ vv _ => L.length - (intOf vv).toNat)
          case atStart => exact ⟨0, Nat.zero_le _, rfl, by rw [pairsTo_zero]; exact HMO.out, HBX.out⟩
          case round =>
            clear HMO HBX
            rename World => wy
            obtain ⟨q, hq, rfl, ⟨hmo, lr, hlr, hls⟩, hb⟩ := hrel
            obtain ⟨am, cm, e5⟩ := grid_row hmo
            subst e5
            obtain ⟨al, cl, e5⟩ := hlr.row.slice
            subst e5
            have HBY : Hid (Below w0.heap.size w0 wy) := HB1.out.trans (hb.mono hz1')
            have HMO := Lib.hid hmo
            have HLR := Lib.hid hlr
            have HLS := Lib.hid hls
            have HBX := Lib.hid hb
            have kg := KG.out _ HBY.out
            clear hmo hb hlr hls
            go_wp2_with fail
            refine (l1Size_any _ L _ (GK.out _ HBY.out)).mono ?_
            rintro e w2 ⟨rfl, hb2⟩
            have HB2 : Hid (Below w1.heap.size w1 w2) := HBX.out.trans (hb2.mono HBX.out.size)
            have HB2A : Hid (Below w0.heap.size w0 w2) := HBY.out.trans (hb2.mono HBY.out.size)
            have HM2 := Lib.hid (HMO.out.keep hb2)
            have HL2 := Lib.hid (HLR.out.keep hb2)
            have kg2 := KG.out _ HB2A.out
            have hz2 : w1.heap.size ≤ w2.heap.size := HB2.out.size
            clear hb2 kg HMO HLR HBX HBY
            by_cases hlt3 : q < L.length
            · have hgr : GridAt w2 (.slice a3 Bs.length c3) Bs := (HOG1.out.keep HB2.out).grid
              obtain ⟨bb, bo, bc, Ar, Cr, e2, l1, l2, hc⟩ := hgr.pos (by omega)
              simp only [Value.slice.injEq, true_and] at e2
              obtain ⟨rfl, rfl⟩ := e2
              obtain ⟨hci, hri⟩ := hc i hlt2
              have HRI := Lib.hid hri
              have HSTEP := Lib.hid (pairsTo_step L.length Bs i q)
              have HPQ := Lib.hid (HPI.out q)
              have hpl := HPL.out q hq
              have hxl := HX.out.1
              have HXX := Lib.hid HX.out.2
              obtain ⟨xs, hxs⟩ : ∃ xs, nthR Bs i = xs := ⟨_, rfl⟩
              rw [hxs] at hci HRI HSTEP hxl HXX
              have HXL := Lib.hid hxl
              have hx8 : xs.length ≤ 8 := by omega
              clear hxl
              obtain ⟨F, hF⟩ : ∃ F, pairsTo L.length Bs i q = F := ⟨_, rfl⟩
              rw [hF] at HM2 HLS HSTEP HPQ hpl ⊢
              have hml := moreL_len A F
              obtain ⟨ar, har⟩ : ∃ ar, Ar i = ar := ⟨_, rfl⟩
              obtain ⟨cr, hcr⟩ : ∃ cr, Cr i = cr := ⟨_, rfl⟩
              rw [har, hcr] at hci HRI
              clear hc hri hxs hF hgr har hcr
              go_wp2_with fail
              refine (l1Has_any _ xs (q : Int) _ HRI.out).mono ?_
              rintro e w' ⟨rfl, rfl⟩
              by_cases hh : hasB xs (q : Int) = true
              · rw [hh]
                rw [if_pos hh] at HSTEP
                clear hh kg2 hci
                go_wp2
                go_roundw
                case rel => exact ⟨q + 1, by omega, by go_num, by rw [HSTEP.out]; exact ⟨HM2.out, lr, HL2.out, HLS.out⟩, HB2.out⟩
                case measure => simp [intOf]; omega
              · rw [if_neg hh] at HSTEP
                rw [show hasB xs (q : Int) = false from by simpa using hh]
                have HPX : Hid (prow A (xs, q) = rowA A xs (q : Int)) := rfl
                have hbd : Below w2.heap.size w2 w2.drew := (Below.refl _ _).drew
                have HROW : Hid (Calls Try.prog 94 #[.agg #[.slice a0 L.length c0], .slice ar xs.length cr, .int .i64 (q : Int)] w2.drew (GaveRow w2 (rowA A xs (q : Int)))) := by
                  have := l4Row_any L HG.out a0 c0 (.slice ar xs.length cr) xs q hlt3 w2.drew (GK.out _ (HB2A.out.trans (hbd.mono HB2A.out.size))) (HRI.out.keep hbd) HXX.out (by omega)
                  rw [HAE.out] at this
                  exact this.mono fun e w' ⟨n, a, c, h1, h2, h3⟩ => ⟨n, a, c, h1, h2, hbd.trans h3⟩
                clear hh hbd
                go_wp2_with fail
                go_still_tail 6, (by kernel_rfl)
                change wpList _ _ _ _ _ w2.drew
                clear kg2
                generalize w2.drew = w3 at HROW ⊢
                go_wp2_with fail
                refine HROW.out.mono ?_
                rintro e w4 ⟨n4, a4, c4, rfl, ho4, hb4⟩
                obtain ⟨a4', c4', e4⟩ := ho4.row.slice
                simp only [Value.slice.injEq] at e4
                obtain ⟨rfl, rfl, rfl⟩ := e4
                have hci4 := cell_keep hb4 hci
                have HRI4 := Lib.hid (HRI.out.keep hb4)
                have HM4 := Lib.hid (HM2.out.keep hb4)
                have HL4 := Lib.hid (HL2.out.keep hb4)
                have HR4 := Lib.hid (ho4.mono hz2)
                have HB4 : Hid (Below w1.heap.size w1 w4) := HB2.out.trans (hb4.mono hz2)
                have hz4 : w1.heap.size ≤ w4.heap.size := HB4.out.size
                obtain ⟨rw', hrw⟩ : ∃ rw', rowA A xs (q : Int) = rw' := ⟨_, rfl⟩
                rw [hrw] at HPX HR4
                have HRL : Hid (rw'.length = xs.length) := by show _ = _; rw [← hrw, rowA_len]
                rw [hrw]
                clear ho4 hb4 HROW HM2 HL2 HRI hci hrw HB2 HB2A hz2
                have HLEN : Hid (lr.length = rw'.length ∨ F = []) := by
                  rcases HLS.out with h | ⟨⟨p, hp, e⟩, _⟩
                  · exact .inr h
                  · refine .inl ?_
                    rw [← e, HRL.out, HXL.out]
                    unfold prow
                    rw [rowA_len]
                    exact HPQ.out p hp
                obtain ⟨M, hM⟩ : ∃ M, moreL A F = M := ⟨_, rfl⟩
                have HME := Lib.hid hM
                rw [hM] at HM4 hml ⊢
                have HMP : Hid (F ≠ [] → 0 < M.length) := fun h => by rw [← hM]; exact moreL_pos h HPQ.out
                have HM0 : Hid (F = [] → M = []) := fun h => by rw [← hM, h, moreL_nil]
                have HPL2 : Hid ((xs, q).1.length = k) := HXL.out
                have HCI4 := Lib.hid hci4
                clear hM
                rcases Classical.em (F = []) with hF0 | hF0
                case' inl =>
                  have hM0 := HM0.out hF0
                  have HNXT : Hid (NextP A F (xs, q) [] rw') := by
                    have := next_reset (A := A) (lr := lr) HPQ.out HPL2.out (.inl hF0)
                    rwa [HPX.out] at this
                  obtain ⟨wz, hwz⟩ : ∃ wz, w4.alloc (.cells #[] 29) = wz := ⟨_, rfl⟩
                  have HWZ := Lib.hid hwz
                  have hbz : Below w4.heap.size w4 wz := by rw [← hwz]; exact (Below.refl _ _).alloc (Nat.le_refl _) _
                  have HMZ : Hid (OwnGrid 2 29 wz w1.heap.size (.slice (some ⟨w4.heap.size, 0, none⟩) ([] : List (List Int)).length 0) []) := by rw [← hwz]; exact own_none w4 _ hz4
                  have HLZ := Lib.hid (HR4.out.keep hbz)
                  have HRZ := Lib.hid (HR4.out.keep hbz)
                  have HBZ : Hid (Below w1.heap.size w1 wz) := HB4.out.trans (hbz.mono hz4)
                  have hciZ := cell_keep hbz hci4
                  have HRIZ := Lib.hid (HRI4.out.keep hbz)
                  have hmz : ([] : List (List Int)).length ≤ 200000000 := by simp
                  have q1 : (((0 : Nat) : Int) == 0) = true := rfl
                  subst hM0
                  clear hwz hbz hml HM4 HL4 HR4 HMP HM0 HLEN hF0 hci4 HRI4 HME
                  go_wp2_with fail
                  rw [HWZ.out]
                  clear HWZ
                  refine (l1Same_any _ _ rw' rw' _ HRZ.out.row HLZ.out.row).mono ?_
                  rintro e w6 ⟨rfl, hd6⟩
                  have hb6 := hd6.below wz.heap.size
                  have HM6 := Lib.hid (HMZ.out.keep hb6)
                  have HL6 := Lib.hid (HLZ.out.keep hb6)
                  have HB6 : Hid (Below w1.heap.size w1 w6) := HBZ.out.trans (hb6.mono HBZ.out.size)
                  have hz6 : w1.heap.size ≤ w6.heap.size := HB6.out.size
                  have hci6 := cell_keep hb6 hciZ
                  have HRI6 := Lib.hid (HRIZ.out.keep hb6)
                  clear hd6 hb6 HMZ HLZ HRZ HBZ hciZ HRIZ
                  rw [decide_eq_true (rfl : rw' = rw')]
                  have HNX2 : Hid (LeastP A (F ++ [(xs, q)]) rw' ∧ moreL A (F ++ [(xs, q)]) = [] ++ [snocP (xs, q)]) := ⟨HNXT.out.1, by have := HNXT.out.2; rw [if_pos HPX.out] at this; exact this⟩
                  have hmz0 := hmz
                  clear HNXT
                case' inr =>
                  have HFN := Lib.hid hF0
                  have hMp := HMP.out hF0
                  have HLR : Hid (LeastP A F lr) := by
                    rcases HLS.out with h | h
                    · exact absurd h hF0
                    · exact h
                  have HLL : Hid (rw'.length = lr.length) := by
                    rcases HLEN.out with h | h
                    · exact h.symm
                    · exact absurd h hF0
                  have q1 : ((M.length : Int) == 0) = false := by rw [beq_eq_false_iff_ne]; omega
                  have HLC := Lib.hid (l1LessLex_any _ _ rw' lr w4 HR4.out.row HL4.out.row HLL.out)
                  clear HMP HM0 HLEN hF0 hci4
                  go_wp2_with fail
                  refine HLC.out.mono ?_
                  rintro e w5 ⟨b, rfl, hbi, hd5⟩
                  have hb5 : Below w4.heap.size w4 w5 := hd5.below _
                  have HM5 := Lib.hid (HM4.out.keep hb5)
                  have HL5 := Lib.hid (HL4.out.keep hb5)
                  have HR5 := Lib.hid (HR4.out.keep hb5)
                  have HB5 : Hid (Below w1.heap.size w1 w5) := HB4.out.trans (hb5.mono hz4)
                  have hz5 : w1.heap.size ≤ w5.heap.size := HB5.out.size
                  have hci5 : w5.cell? _ = _ := cell_keep hb5 HCI4.out
                  have HRI5 := Lib.hid (HRI4.out.keep hb5)
                  have HBI2 := Lib.hid hbi
                  clear hbi hd5 hb5 HM4 HL4 HR4 HRI4 HLC q1 HB4 hz4
                  cases b
                case' false =>
                  have HNXT : Hid (NextP A F (xs, q) M lr) := by
                    have := next_stay HPQ.out HPL2.out HLR.out (fun h => by rw [HPX.out] at h; have := HBI2.out.2 h; cases this)
                    rwa [HME.out] at this
                  have HMZ := HM5
                  have HLZ := HL5
                  have HRZ := HR5
                  have HBZ := HB5
                  have hciZ := hci5
                  have HRIZ := HRI5
                  have hmz : M.length ≤ 200000000 := by omega
                  clear HM5 HL5 HR5 HB5 hci5 HRI5 HME hml HBI2
                  go_wp2_with fail
                  refine (l1Same_any _ _ rw' lr _ HRZ.out.row HLZ.out.row).mono ?_
                  rintro e w6 ⟨rfl, hd6⟩
                  have hb6 := hd6.below w5.heap.size
                  have HM6 := Lib.hid (HMZ.out.keep hb6)
                  have HL6 := Lib.hid (HLZ.out.keep hb6)
                  have HB6 : Hid (Below w1.heap.size w1 w6) := HBZ.out.trans (hb6.mono HBZ.out.size)
                  have hz6 : w1.heap.size ≤ w6.heap.size := HB6.out.size
                  have hci6 := cell_keep hb6 hciZ
                  have HRI6 := Lib.hid (HRIZ.out.keep hb6)
                  clear hd6 hb6 HMZ HLZ HRZ HBZ hciZ HRIZ
                  by_cases he : rw' = lr
                  case neg =>
                    rw [decide_eq_false he]
                    have HNX2 : Hid (LeastP A (F ++ [(xs, q)]) lr ∧ moreL A (F ++ [(xs, q)]) = M) := ⟨HNXT.out.1, by have := HNXT.out.2; rw [HPX.out, if_neg he] at this; exact this⟩
                    clear he HNXT hci6
                    go_wp2
                    go_roundw
                    case rel => exact ⟨q + 1, by omega, by go_num, by rw [HSTEP.out]; exact ⟨by rw [HNX2.out.2]; exact HM6.out, lr, HL6.out, .inr HNX2.out.1⟩, HB6.out⟩
                    case measure => simp [intOf]; omega
                  have hmz0 := hmz
                  have HNX2 : Hid (LeastP A (F ++ [(xs, q)]) lr ∧ moreL A (F ++ [(xs, q)]) = M ++ [snocP (xs, q)]) := ⟨HNXT.out.1, by have := HNXT.out.2; rw [HPX.out, if_pos he] at this; exact this⟩
                  rw [decide_eq_true he]
                  clear he HNXT
                case' true =>
                  have HNXT : Hid (NextP A F (xs, q) [] rw') := by
                    have := next_reset (A := A) (lr := lr) HPQ.out HPL2.out (.inr ⟨HLR.out, by rw [HPX.out]; exact HBI2.out.1 rfl⟩)
                    rwa [HPX.out] at this
                  obtain ⟨wz, hwz⟩ : ∃ wz, w5.alloc (.cells #[] 29) = wz := ⟨_, rfl⟩
                  have HWZ := Lib.hid hwz
                  have hbz : Below w5.heap.size w5 wz := by rw [← hwz]; exact (Below.refl _ _).alloc (Nat.le_refl _) _
                  have HMZ : Hid (OwnGrid 2 29 wz w1.heap.size (.slice (some ⟨w5.heap.size, 0, none⟩) ([] : List (List Int)).length 0) []) := by rw [← hwz]; exact own_none w5 _ hz5
                  have HLZ := Lib.hid (HR5.out.keep hbz)
                  have HRZ := Lib.hid (HR5.out.keep hbz)
                  have HBZ : Hid (Below w1.heap.size w1 wz) := HB5.out.trans (hbz.mono hz5)
                  have hciZ := cell_keep hbz hci5
                  have HRIZ := Lib.hid (HRI5.out.keep hbz)
                  have hmz : ([] : List (List Int)).length ≤ 200000000 := by simp
                  clear hwz hbz hml HM5 HL5 HR5 hci5 HRI5 HME HBI2
                  go_wp2_with fail
                  rw [HWZ.out]
                  clear HWZ
                  refine (l1Same_any _ _ rw' rw' _ HRZ.out.row HLZ.out.row).mono ?_
                  rintro e w6 ⟨rfl, hd6⟩
                  have hb6 := hd6.below wz.heap.size
                  have HM6 := Lib.hid (HMZ.out.keep hb6)
                  have HL6 := Lib.hid (HLZ.out.keep hb6)
                  have HB6 : Hid (Below w1.heap.size w1 w6) := HBZ.out.trans (hb6.mono HBZ.out.size)
                  have hz6 : w1.heap.size ≤ w6.heap.size := HB6.out.size
                  have hci6 := cell_keep hb6 hciZ
                  have HRI6 := Lib.hid (HRIZ.out.keep hb6)
                  clear hd6 hb6 HMZ HLZ HRZ HBZ hciZ HRIZ
                  rw [decide_eq_true (rfl : rw' = rw')]
                  have HNX2 : Hid (LeastP A (F ++ [(xs, q)]) rw' ∧ moreL A (F ++ [(xs, q)]) = [] ++ [snocP (xs, q)]) := ⟨HNXT.out.1, by have := HNXT.out.2; rw [if_pos HPX.out] at this; exact this⟩
                  have hmz0 := hmz
                  clear HNXT
                all_goals (
                  clear hmz0
                  obtain ⟨R, hR, hRr, hRd⟩ := HM6.out.owns
                  have HR := Lib.hid hR
                  have HRr := Lib.hid hRr
                  have HRd := Lib.hid hRd
                  clear hR hRr hRd
                  have HI64 : Hid (∀ x ∈ xs ++ [(q : Int)], I64 x) := fun x hx => by
                    rcases List.mem_append.1 hx with h | h
                    · obtain ⟨i, hi, rfl⟩ := List.getElem_of_mem h
                      have := HXX.out i hi
                      rw [nth_eq hi] at this
                      unfold I64; omega
                    · simp at h; subst h; unfold I64; omega
                  go_wp2_with fail
                  refine (l1Copy_any _ xs _ HRI6.out (by omega)).mono ?_
                  rintro e w7 ⟨n7, a7, c7, rfl, ho7, hb7⟩
                  obtain ⟨a7', c7', e7⟩ := ho7.row.slice
                  simp only [Value.slice.injEq] at e7
                  obtain ⟨rfl, rfl, rfl⟩ := e7
                  have HO7 := Lib.hid ho7
                  have HB7 := Lib.hid hb7
                  have hz7 : w6.heap.size ≤ w7.heap.size := hb7.size
                  have HOW7 := Lib.hid ho7.owns
                  clear ho7 hb7 hci6
                  go_wp2_with (first
                    | (at_builtin; refine wpList_append_own _ rfl (.tmp 63) (.tmp 65) 29 rfl w6.heap.size 2 j0 (.int .i64 0) 1 8 Try.underlying29 hj hy0 hy1 hy2 rfl (by decide) _ _ _ rfl (HOW7.out.alloc _) ⟨w7.heap.size, 0, none⟩ 1 1 [.int .i64 (q : Int)] rfl rfl (lit1 _ _ _) (one1 _) (by unfold maxLen; omega) (by omega) (by simp; omega) ?_; intro v8 w8 hown8 hgrow8 _; have HO8 : Hid (OwnRow 2 w8 w6.heap.size v8 (xs ++ [(q : Int)])) := OwnRow.of_ownsRow (n := xs.length + 1) (by simpa using hown8) (by simp; unfold maxLen; omega) HI64.out; have HB8 : Hid (Below w6.heap.size w6 w8) := ((HB7.out.alloc HB7.out.size _).grown hgrow8 (by simp; omega) (fun j hj => (HO7.out.lt j hj).1)); have hz8 : w6.heap.size ≤ w8.heap.size := HB8.out.size; obtain ⟨a8, c8, e8⟩ := HO8.out.row.slice; rw [List.length_append, List.length_singleton] at e8; subst e8; have HR8 := Lib.hid (own_keep HR.out HB8.out); clear hown8 hgrow8)
                    | (at_builtin; refine wpList_append_own _ rfl (.tmp 58) (.tmp 67) 24 rfl w1.heap.size 29 i0 (.slice none 0 0) 1 24 Try.underlying24 hi hz0 hz1 hz2 rfl (by decide) _ _ _ rfl (HR8.out.alloc _) ⟨w8.heap.size, 0, none⟩ 1 1 [.slice a8 (xs.length + 1) c8] rfl rfl (World.news_of_block (heap_alloc_new _ _)) (fun u hu => by simp at hu; subst hu; rfl) (by unfold maxLen; omega) (by omega) (by rw [size_alloc1]; omega) ?_; intro v9 w9 hown9 hgrow9 _; have HM9 := Lib.hid (OwnGrid.snoc (w0 := w6) (w := w8.alloc (.cells #[.slice a8 (xs.length + 1) c8] 29)) (rv := .slice a8 (xs.length + 1) c8) (by decide) (HB8.out.alloc hz8 _) hz6 (HO8.out.keep ((Below.refl _ _).alloc (Nat.le_refl _) _)) rfl (by unfold maxLen; omega) R HR.out HRr.out HRd.out hown9 hgrow9); have HL9 := Lib.hid (((HL6.out.keep HB8.out).keep ((Below.refl _ _).alloc (Nat.le_refl _) _)).grown (HR8.out.alloc _) (by decide) hgrow9); have HB9 : Hid (Below w1.heap.size w1 w9) := (HB6.out.trans ((HB8.out.alloc hz8 _).mono hz6)).grown hgrow9 (by rw [size_alloc1]; omega) (fun j hj => (HR.out.lt j hj).1); clear hown9 hgrow9))
                  go_roundw
                  case rel => exact ⟨q + 1, by omega, by go_num, by rw [HSTEP.out]; exact ⟨by rw [HNX2.out.2]; exact HM9.out, _, HL9.out, .inr HNX2.out.1⟩, HB9.out⟩
                  case measure => simp [intOf]; omega)
            · obtain rfl : q = L.length := by omega
              rw [pairsTo_all hlt2] at HM2 HLS ⊢
              clear kg2
              go_wp2
              go_roundw
              case rel => exact ⟨i + 1, by omega, by go_num, ⟨HM2.out, lr, HL2.out, HLS.out⟩, HB2.out⟩
              case measure => simp [intOf]; omega
        · obtain rfl : i = Bs.length := by omega
          have hm3 := HMO.out.1.mono hz1'
          rw [List.take_length, ← HNX.out] at hm3
          have HO3 := Lib.hid hm3
          clear hm3
          go_wp2
          go_roundw
          case rel => exact ⟨k + 1, by omega, by go_num, HO3.out, HB1.out.trans (HBX.out.mono hz1')⟩
          case measure => simp [intOf]; omega
    · obtain rfl : k = L.length := by omega
      obtain ⟨a3, c3, e3⟩ := grid_row HOG1.out
      subst e3
      have HF : Hid (GaveGrid w (bestTo A L.length L.length) (.returned (.slice a3 (bestTo A L.length L.length).length c3)) w1) := ⟨_, _, _, rfl, HOG1.out.mono hzw, HA.out.trans (HB1.out.mono hzw)⟩
      clear HOG1
      go_wp2
      go_ret
      exact HF.out

end Go.Proofs.Ytgeifbgjfbfcfaa
