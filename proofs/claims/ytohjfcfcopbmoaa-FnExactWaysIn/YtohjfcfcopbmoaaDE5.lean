/- Walks: slices.Max; WaysIn, of both sides. -/
import Derived.Test.YtohjfcfcopbmoaaDE4

namespace Go.Proofs.Ytohjfcfcopbmoaa
open Go.RowKit

/-- The greatest of the first k + 1. -/
def maxI (xs : List Int) : Nat → Int
  | 0 => nth xs 0
  | k + 1 => max (maxI xs k) (nth xs (k + 1))
theorem maxI_le {xs : List Int} {m : Int} : ∀ k, maxI xs k ≤ m ↔ ∀ i, i ≤ k → nth xs i ≤ m
  | 0 => ⟨fun h i hi => by obtain rfl : i = 0 := by omega
                           exact h, fun h => h 0 (Nat.le_refl _)⟩
  | k + 1 => by
    rw [maxI]
    constructor
    · intro h i hi
      by_cases e : i = k + 1
      · subst e; omega
      · exact (maxI_le k).1 (by omega) i (by omega)
    · intro h
      have h1 := (maxI_le (xs := xs) (m := m) k).2 (fun i hi => h i (by omega))
      have h2 := h (k + 1) (Nat.le_refl _)
      omega

set_option maxHeartbeats 1000000 in
theorem max_any (v : Value) (xs : List Int) (w : World) (h : RowAt w v xs) (h0 : 0 < xs.length) :
    Calls Try.prog 47 #[v] w fun e w' => e = .returned (.int .i64 (maxI xs (xs.length - 1))) ∧ w = w' := by
  have hl := h.len
  unfold maxLen at hl
  obtain ⟨b, o, c, rfl, l1, l2, hc⟩ := h.pos h0
  have hc0 := hc 0 h0
  rw [Nat.add_zero] at hc0
  have HC := Lib.hid hc
  have hI : ¬ (xs.length : Int) < 1 := by omega
  have h0I : (0 : Int) < (xs.length : Int) := by omega
  clear hc h
  go_enter Try.func47, Try.ntmps47
  go_wp2
  go_loop [3, 4] (fun m i => ∃ k : Nat, k < xs.length ∧ i = .int .i64 ((k : Int) + 1) ∧ m = .int .i64 (maxI xs k)) (fun _ i => xs.length + 1 - (intOf i).toNat)
  case atStart => exact ⟨0, h0, rfl, rfl⟩
  case round =>
    obtain ⟨k, hk, rfl, rfl⟩ := hrel
    by_cases hlt : k + 1 < xs.length
    · have hck := HC.out (k + 1) hlt
      have hkI : (k : Int) + 1 < (xs.length : Int) := by omega
      have hk0 : (0 : Int) ≤ (k : Int) + 1 := by omega
      have hkt : ((k : Int) + 1).toNat = k + 1 := by omega
      have HS : Hid (maxI xs (k + 1) = max (maxI xs k) (nth xs (k + 1))) := rfl
      have hwk : IntKind.i64.wrap ((k : Int) + 1 + 1) = (k : Int) + 1 + 1 := IntWalk.i64_in _ (by omega)
      go_wp2
      go_round
      case rel => exact ⟨k + 1, hlt, by go_num, by rw [HS.out]; congr 1; split <;> omega⟩
      case measure => simp [intOf]; omega
    · have HK : Hid (xs.length - 1 = k) := by show _ = _; omega
      have hkI : ¬ (k : Int) + 1 < (xs.length : Int) := by omega
      go_wp2
      go_ret
      exact ⟨ret_int (by rw [HK.out]), rfl⟩

/-- How many of the first links have bag b. -/
def degTo (K : List (List Int)) (b : Int) : Nat → Nat
  | 0 => 0
  | k + 1 => degTo K b k + (if hasB (nthR K k) b then 1 else 0)
theorem degTo_le (K : List (List Int)) (b : Int) : ∀ k, degTo K b k ≤ k
  | 0 => Nat.le_refl _
  | k + 1 => by
    have := degTo_le K b k
    rw [degTo]
    split <;> omega
/-- Each bag has two links at most. -/
def WaysP (B K : List (List Int)) : Prop := FormP B K ∧ ∀ b, b < B.length → degTo K (b : Int) K.length ≤ 2
instance (B K : List (List Int)) : Decidable (WaysP B K) := by unfold WaysP; infer_instance
/-- What WaysIn answers. -/
def waysV (B K : List (List Int)) : Bool := decide (WaysP B K)

set_option maxHeartbeats 2000000 in
theorem specWaysIn_any (v u : Value) (B K : List (List Int)) (w : World) (h : GridAt w v B) (h' : GridAt w u K) :
    Calls Try.prog 23 #[.agg #[v, u]] w fun e w' => e = .returned (.bool (waysV B K)) ∧ Below w.heap.size w w' := by
  have hl := h.len
  have hl' := h'.len
  unfold maxLen at hl hl'
  obtain ⟨a, c, rfl⟩ := h.slice
  obtain ⟨a', c', rfl⟩ := h'.slice
  have HB : Hid (Below w.heap.size w (w.alloc (.cells #[.slice a B.length c, .slice a' K.length c'] 27))) := (Below.refl _ _).alloc (Nat.le_refl _) _
  have X0 := Lib.hid (Box2.new w (.slice a B.length c) (.slice a' K.length c') 27)
  have HG := Lib.hid h
  have HK := Lib.hid h'
  clear h h'
  go_enter Try.func23, Try.ntmps23
  go_wp2_with fail
  refine (l9Form_any _ _ B K _ (HG.out.keep HB.out) (HK.out.keep HB.out)).mono ?_
  rintro e w1 ⟨rfl, hb1⟩
  have HB1 : Hid (Below w.heap.size w w1) := HB.out.trans (hb1.mono HB.out.size)
  have X1 := Lib.hid (X0.out.keep hb1)
  clear hb1 HB X0
  by_cases hF : FormP B K
  · rw [decide_eq_true hF]
    have hk16 := hF.1
    have HF := Lib.hid hF
    clear hF
    have hx0 := X1.out.c0
    have hx1 := X1.out.c1
    go_wp2
    go_loopw [3] (fun i wr => ∃ b : Nat, b ≤ B.length ∧ i = .int .i64 b ∧ (∀ j, j < b → degTo K (j : Int) K.length ≤ 2) ∧ Drawn w1 wr) (fun i _ => B.length - (intOf i).toNat)
    case atStart => exact ⟨0, Nat.zero_le _, rfl, (fun j hj => absurd hj (by omega)), Drawn.refl _⟩
    case round =>
      obtain ⟨b, hb, rfl, he, hd⟩ := hrel
      have HE := Lib.hid he
      have HD := Lib.hid hd
      have kx0 := cell_drawn hd hx0
      have kx1 := cell_drawn hd hx1
      clear he hd
      by_cases hlt : b < B.length
      · have hbI : (b : Int) < (B.length : Int) := by omega
        go_wp2
        go_loopw [4, 5] (fun m i wx => ∃ k : Nat, k ≤ K.length ∧ i = .int .i64 k ∧ m = .int .i64 (degTo K (b : Int) k : Int) ∧ Drawn w1 wx) (fun _ i _ => K.length - (intOf i).toNat)
        case atStart => exact ⟨0, Nat.zero_le _, rfl, rfl, HD.out⟩
        case round =>
          rename World => wx
          obtain ⟨k, hk, rfl, rfl, hd⟩ := hrel
          have HDX := Lib.hid hd
          have lx0 := cell_drawn hd hx0
          have lx1 := cell_drawn hd hx1
          have hgr := HK.out.keep (HB1.out.trans (hd.below _))
          have hdk := degTo_le K (b : Int) k
          clear hd
          by_cases hkl : k < K.length
          · obtain ⟨bb, oo, cc, A, C, e5, l1, l2, hc⟩ := hgr.pos (by omega)
            simp only [Value.slice.injEq, true_and] at e5
            obtain ⟨rfl, rfl⟩ := e5
            obtain ⟨hck, hrow⟩ := hc k hkl
            have hkI : (k : Int) < (K.length : Int) := by omega
            have HS : Hid (degTo K (b : Int) (k + 1) = degTo K (b : Int) k + (if hasB (nthR K k) (b : Int) then 1 else 0)) := rfl
            clear hc hgr
            go_wp2_with fail
            refine (l1Has_any _ _ _ _ hrow).mono ?_
            rintro e w' ⟨rfl, rfl⟩
            clear hrow
            cases hh : hasB (nthR K k) (b : Int) with
            | true =>
              rw [hh] at HS
              clear hh
              go_wp2
              go_roundw
              case rel => exact ⟨k + 1, by omega, by go_num, by rw [HS.out]; go_num, HDX.out⟩
              case measure => simp [intOf]; omega
            | false =>
              rw [hh] at HS
              clear hh
              go_wp2
              go_roundw
              case rel => exact ⟨k + 1, by omega, by go_num, by rw [HS.out]; go_num, HDX.out⟩
              case measure => simp [intOf]; omega
          · obtain rfl : k = K.length := by omega
            clear hgr
            by_cases h2 : degTo K (b : Int) K.length ≤ 2
            · have h2I : ¬ (2 : Int) < (degTo K (b : Int) K.length : Int) := by omega
              have H2 := Lib.hid h2
              clear h2
              go_wp2
              go_roundw
              case rel => exact ⟨b + 1, by omega, by go_num, (fun j hj => by rcases Nat.lt_succ_iff_lt_or_eq.1 hj with h | h; exact HE.out j h; subst h; exact H2.out), HDX.out⟩
              case measure => simp [intOf]; omega
            · have h2I : (2 : Int) < (degTo K (b : Int) K.length : Int) := by omega
              have HN : Hid (waysV B K = false) := decide_eq_false (fun hw => h2 (hw.2 b hlt))
              clear h2
              go_wp2
              go_ret
              exact ⟨ret_bool HN.out.symm, HB1.out.trans (HDX.out.below _)⟩
      · obtain rfl : b = B.length := by omega
        have HN : Hid (waysV B K = true) := decide_eq_true ⟨HF.out, HE.out⟩
        go_wp2
        go_ret
        exact ⟨ret_bool HN.out.symm, HB1.out.trans (HD.out.below _)⟩
  · have HN : Hid (waysV B K = false) := decide_eq_false (fun hw => hF hw.1)
    rw [decide_eq_false hF]
    clear hF
    go_wp2
    go_ret
    exact ⟨ret_bool HN.out.symm, HB1.out⟩

end Go.Proofs.Ytohjfcfcopbmoaa
