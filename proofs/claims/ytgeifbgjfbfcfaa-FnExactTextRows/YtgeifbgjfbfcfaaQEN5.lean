/- The texts EN5, EN6, joined. -/
import Derived.Test.YtgeifbgjfbfcfaaQEN3
import Derived.Test.YtgeifbgjfbfcfaaQD5

/- Walks: twins, and a choice narrowed by them. -/
namespace Go.Proofs.Ytgeifbgjfbfcfaa
open Go.RowKit Go.Shelf

/-- Sixteen masks, as cells. -/
def tabArr (M : Nat → Nat) : Array Value :=
  #[.int .u32 (M 0 : Int), .int .u32 (M 1 : Int), .int .u32 (M 2 : Int), .int .u32 (M 3 : Int), .int .u32 (M 4 : Int), .int .u32 (M 5 : Int), .int .u32 (M 6 : Int), .int .u32 (M 7 : Int), .int .u32 (M 8 : Int),
    .int .u32 (M 9 : Int), .int .u32 (M 10 : Int), .int .u32 (M 11 : Int), .int .u32 (M 12 : Int), .int .u32 (M 13 : Int), .int .u32 (M 14 : Int), .int .u32 (M 15 : Int)]
theorem tabArr_size (M : Nat → Nat) : (tabArr M).size = 16 := rfl
theorem tabArr_one (M : Nat → Nat) : (tabArr M).all (·.oneCell') = true := by simp [tabArr, Value.oneCell']
theorem tabArr_get (M : Nat → Nat) (i : Nat) (hi : i < 16) : (tabArr M)[i]? = some (.int .u32 (M i : Int)) := by
  have h : i = 0 ∨ i = 1 ∨ i = 2 ∨ i = 3 ∨ i = 4 ∨ i = 5 ∨ i = 6 ∨ i = 7 ∨ i = 8 ∨ i = 9 ∨ i = 10 ∨ i = 11 ∨ i = 12 ∨ i = 13 ∨ i = 14 ∨ i = 15 := by omega
  rcases h with rfl | rfl | rfl | rfl | rfl | rfl | rfl | rfl | rfl | rfl | rfl | rfl | rfl | rfl | rfl | rfl <;> rfl
theorem tabArr_eq {cs : Array Value} {M : Nat → Nat} (hs : cs.size = 16) (h : ∀ i, i < 16 → cs[i]? = some (.int .u32 (M i : Int))) : cs = tabArr M := by
  apply Array.ext_getElem?
  intro j
  by_cases hj : j < 16
  · rw [h j hj, tabArr_get M j hj]
  · rw [Array.getElem?_eq_none (by omega), Array.getElem?_eq_none (by rw [tabArr_size]; omega)]
theorem tabArr_congr {M M' : Nat → Nat} (h : ∀ i, i < 16 → M i = M' i) : tabArr M = tabArr M' := tabArr_eq (tabArr_size M) (fun i hi => by rw [tabArr_get M i hi, h i hi])
theorem tabArr_set (M : Nat → Nat) (i m : Nat) (hi : i < 16) : (tabArr M).setIfInBounds i (.int .u32 (m : Int)) = tabArr (fun j => if j = i then m else M j) := by
  refine tabArr_eq (by rw [Array.size_setIfInBounds, tabArr_size]) (fun j hj => ?_)
  rw [Array.getElem?_setIfInBounds]
  by_cases e : j = i
  · subst e
    rw [if_pos rfl, if_pos (by rw [tabArr_size]; omega)]
    simp
  · rw [if_neg (by omega), tabArr_get M j hj]
    simp [e]
/-- Block g holds sixteen masks; it is not frozen. -/
def TabBlk (w : World) (g : Nat) (M : Nat → Nat) : Prop := w.heap[g]? = some (.cells (tabArr M) 55 (0, 0))
namespace TabBlk
variable {w w' : World} {g : Nat} {M : Nat → Nat}
theorem cell (h : TabBlk w g M) {i : Nat} (hi : i < 16) : w.cell? ⟨g, i, none⟩ = some (.int .u32 (M i : Int)) := by rw [cell_of_row w g i _ _ _ h, tabArr_get M i hi]
theorem frozen (h : TabBlk w g M) (i : Nat) : w.frozen? ⟨g, i, none⟩ = false := frozen_of_row w g i _ _ h
theorem lt (h : TabBlk w g M) : g < w.heap.size := (Array.getElem?_eq_some_iff.1 h).1
theorem keep (h : TabBlk w g M) (hb : Below w.heap.size w w') : TabBlk w' g M := by unfold TabBlk; rw [hb.block g h.lt]; exact h
theorem set (h : TabBlk w g M) (i m : Nat) (hi : i < 16) : TabBlk (w.setCell ⟨g, i, none⟩ (.int .u32 (m : Int))) g (fun j => if j = i then m else M j) := by
  unfold TabBlk
  rw [heap_setCell_same w g i _ _ _ h, tabArr_set M i m hi]
theorem setOther (h : TabBlk w g M) {a : Addr} (ha : g ≠ a.block) (u : Value) : TabBlk (w.setCell a u) g M := by
  unfold TabBlk
  rw [heap_setCell_other _ _ _ _ ha]; exact h
theorem congr {M' : Nat → Nat} (h : TabBlk w g M) (hM : ∀ i, i < 16 → M i = M' i) : TabBlk w g M' := by unfold TabBlk; rw [← tabArr_congr hM]; exact h
theorem but {T : Nat → Prop} (h : TabBlk w g M) (hb : KeepsBut T w w') (hT : ¬ T g) : TabBlk w' g M := by unfold TabBlk; rw [hb.2 g h.lt hT]; exact h
end TabBlk

/-- u and v can change places. -/
def twinB (M : Nat → Nat) (u v : Nat) : Bool := clrM (clrM (M u ^^^ M v) (2 ^ u)) (2 ^ v) == 0
/-- The twins of v below k. -/
def twRow (M : Nat → Nat) (v k : Nat) : Nat := pm (fun u => decide (u < k) && twinB M u v)
theorem twRow_lt (M : Nat → Nat) (v k : Nat) : twRow M v k < 65536 := pm_lt _
theorem twRow_bit {M : Nat → Nat} {v k u : Nat} (hk : k ≤ 16) : (twRow M v k).testBit u = true ↔ u < k ∧ twinB M u v = true := by
  unfold twRow
  rw [pm_bit, Bool.and_eq_true, decide_eq_true_iff, Bool.and_eq_true, decide_eq_true_iff]
  exact ⟨fun h => h.2, fun h => ⟨by omega, h⟩⟩
theorem twRow_zero (M : Nat → Nat) (v : Nat) : twRow M v 0 = 0 := bit_ext fun u => by rw [twRow_bit (by omega)]; simp
theorem twRow_yes {M : Nat → Nat} {v k : Nat} (hk : k < 16) (h : twinB M k v = true) : twRow M v k ||| 2 ^ k = twRow M v (k + 1) := bit_ext fun u => by
  rw [Nat.testBit_or, Bool.or_eq_true, twRow_bit (by omega), twRow_bit (by omega), Nat.testBit_two_pow, decide_eq_true_iff]
  constructor
  · rintro (⟨h1, h2⟩ | h1)
    · exact ⟨by omega, h2⟩
    · subst h1; exact ⟨by omega, h⟩
  · rintro ⟨h1, h2⟩
    by_cases e : u = k
    · exact .inr e.symm
    · exact .inl ⟨by omega, h2⟩
theorem twRow_no {M : Nat → Nat} {v k : Nat} (hk : k < 16) (h : twinB M k v = false) : twRow M v k = twRow M v (k + 1) := bit_ext fun u => by
  rw [twRow_bit (by omega), twRow_bit (by omega)]
  constructor
  · rintro ⟨h1, h2⟩; exact ⟨by omega, h2⟩
  · rintro ⟨h1, h2⟩
    refine ⟨?_, h2⟩
    by_cases e : u = k
    · subst e; rw [h] at h2; cases h2
    · omega
/-- The table, half filled. -/
def twTab (M : Nat → Nat) (v k i : Nat) : Nat := if i < v then twRow M i i else if i = v then twRow M v k else 0
theorem twTab_next (M : Nat → Nat) (v i : Nat) : twTab M v v i = twTab M (v + 1) 0 i := by
  unfold twTab
  by_cases h1 : i < v
  · rw [if_pos h1, if_pos (by omega)]
  · rw [if_neg h1]
    by_cases h2 : i = v
    · rw [if_pos h2, if_pos (by omega), h2]
    · rw [if_neg h2, if_neg (by omega)]
      split
      · rw [twRow_zero]
      · rfl
theorem twTab_at (M : Nat → Nat) (v k : Nat) : twTab M v k v = twRow M v k := by unfold twTab; rw [if_neg (by omega), if_pos rfl]
theorem twTab_put (M : Nat → Nat) (v k i : Nat) : (if i = v then twRow M v (k + 1) else twTab M v k i) = twTab M v (k + 1) i := by
  unfold twTab
  by_cases h2 : i = v
  · rw [if_pos h2, if_neg (by omega), if_pos h2]
  · rw [if_neg h2]
    by_cases h1 : i < v
    · rw [if_pos h1, if_pos h1]
    · rw [if_neg h1, if_neg h2, if_neg h1, if_neg h2]
/-- The smaller twins of each of n vertices. -/
def twN (M : Nat → Nat) (n i : Nat) : Nat := if i < n then twRow M i i else 0
theorem twTab_all (M : Nat → Nat) (n i : Nat) : twTab M n 0 i = twN M n i := by
  unfold twTab twN
  by_cases h1 : i < n
  · rw [if_pos h1, if_pos h1]
  · rw [if_neg h1, if_neg h1]
    split
    · rw [twRow_zero]
    · rfl
theorem twN_lt (M : Nat → Nat) (n i : Nat) : twN M n i < 65536 := by unfold twN; split; exact twRow_lt _ _ _; omega
theorem xor_lt {a b : Nat} (ha : a < 65536) (hb : b < 65536) : a ^^^ b < 65536 := Nat.xor_lt_two_pow (n := 16) ha hb

theorem Try.sizeTab : (Try.prog.info? 55).map (·.size) = some 16 := by kernel_rfl

/-- What lies in the midst of the search for twins. -/
structure TwIn (w : World) (bn n : Nat) (M : Nat → Nat) (v k : Nat) (wr : World) : Prop where
  out : TabBlk wr (w.heap.size + 1) (twTab M v k)
  res : TabBlk wr w.heap.size (fun _ => 0)
  bel : Below w.heap.size w wr
theorem TwIn.later {w : World} {bn n : Nat} {M : Nat → Nat} {v k : Nat} {wr w' : World} (h : TwIn w bn n M v k wr) (hb : Below wr.heap.size wr w') : TwIn w bn n M v k w' := ⟨h.out.keep hb, h.res.keep hb, h.bel.trans (hb.mono h.bel.size)⟩

set_option maxHeartbeats 2000000 in
set_option maxRecDepth 100000 in
theorem twinsBelow_any (bn n : Nat) (M : Nat → Nat) (w : World) (h : NetAt w bn n M) (hn : n ≤ 16) (hM : ∀ i, M i < 65536) :
    Calls Try.prog 75 #[.pointer (some ⟨bn, 0, none⟩)] w fun e w' => e = .returned (.agg (tabArr (twN M n))) ∧ Below w.heap.size w w' := by
  have kn := h.1
  have HN := Lib.hid h
  have HM := Lib.hid hM
  obtain ⟨w0, hw0⟩ : ∃ w0, (w.alloc (.cells #[.int .u32 0, .int .u32 0, .int .u32 0, .int .u32 0, .int .u32 0, .int .u32 0, .int .u32 0, .int .u32 0, .int .u32 0, .int .u32 0, .int .u32 0, .int .u32 0, .int .u32 0, .int .u32 0, .int .u32 0, .int .u32 0] 55)).alloc (.cells #[.int .u32 0, .int .u32 0, .int .u32 0, .int .u32 0, .int .u32 0, .int .u32 0, .int .u32 0, .int .u32 0, .int .u32 0, .int .u32 0, .int .u32 0, .int .u32 0, .int .u32 0, .int .u32 0, .int .u32 0, .int .u32 0] 55) = w0 := ⟨_, rfl⟩
  have hw1 : (w.alloc (.cells (tabArr (fun _ => 0)) 55)).alloc (.cells (tabArr (fun _ => 0)) 55) = w0 := hw0
  have hT0 : TwIn w bn n M 0 0 w0 := by
    rw [← hw1]
    refine ⟨?_, ?_, ((Below.refl _ _).alloc (Nat.le_refl _) _).alloc (by simp) _⟩
    · have : TabBlk ((w.alloc (.cells (tabArr (fun _ => 0)) 55)).alloc (.cells (tabArr (fun _ => 0)) 55)) (w.alloc (.cells (tabArr (fun _ => 0)) 55)).heap.size (fun _ => 0) := World.alloc_heap_new _ _
      rw [size_alloc1] at this
      exact this.congr (fun i _ => by unfold twTab; simp [twRow_zero])
    · have : TabBlk (w.alloc (.cells (tabArr (fun _ => 0)) 55)) w.heap.size (fun _ => 0) := World.alloc_heap_new _ _
      exact this.keep ((Below.refl _ _).alloc (Nat.le_refl _) _)
  have H0 := Lib.hid hT0
  have kn0 := cell_keep hT0.bel kn
  have HNL : Hid (∀ wr, Below w.heap.size w wr → ∀ i, i < 16 → wr.cell? ⟨bn, 1 + i, none⟩ = some (.int .u32 (M i : Int))) := fun wr hb i hi => (h.keep hb).2 i hi
  clear h hM hT0 kn hw1
  go_enter Try.func75, Try.ntmps75
  go_wp2_with fail
  clear hw0 kn0
  go_loopw [11] (fun i wr => ∃ v : Nat, v ≤ n ∧ i = .int .i64 v ∧ TwIn w bn n M v 0 wr) (fun i _ => n - (intOf i).toNat)
  case atStart => exact ⟨0, Nat.zero_le _, rfl, H0.out⟩
  case round =>
    clear H0
    obtain ⟨v, hv, rfl, hti⟩ := hrel
    have HTI := Lib.hid hti
    clear hti
    by_cases hlt : v < n
    · go_wp2_with fail
      go_loopw [15] (fun i wx => ∃ k : Nat, k ≤ v ∧ i = .int .i64 k ∧ TwIn w bn n M v k wx) (fun i _ => v - (intOf i).toNat)
      case atStart => exact ⟨0, Nat.zero_le _, rfl, HTI.out⟩
      case round =>
        clear HTI
        rename World => wx
        obtain ⟨u, hu, rfl, hti⟩ := hrel
        have HTI := Lib.hid hti
        have ku := HNL.out _ hti.bel u (by omega)
        have kv := HNL.out _ hti.bel v (by omega)
        clear hti
        have hMu := HM.out u
        have hMv := HM.out v
        by_cases hul : u < v
        · have hbits : bits BinOp.xor IntKind.u32 (M u : Int) (M v : Int) = ((M u ^^^ M v : Nat) : Int) := u32_xor_nat _ _ (by omega) (by omega)
          have hxl := xor_lt hMu hMv
          obtain ⟨X, hX⟩ : ∃ X, M u ^^^ M v = X := ⟨_, rfl⟩
          have HX := Lib.hid hX
          rw [hX] at hbits hxl
          have kuA := cell_keep ((Below.refl wx.heap.size wx).alloc (Nat.le_refl _) (.cells #[.int .u32 0] 54)) ku
          have kvA := cell_keep ((Below.refl wx.heap.size wx).alloc (Nat.le_refl _) (.cells #[.int .u32 0] 54)) kv
          have hu16 : (u : Int) < 16 := by omega
          have hv16 : (v : Int) < 16 := by omega
          clear hX
          go_wp2_with fail
          go_cut [6] (fun p wy => ∃ bo : Nat, p = .pointer (some ⟨bo, 0, none⟩) ∧ wx.heap.size ≤ bo ∧ BoxAt wy bo (.int .u32 (X : Int)) ∧ Below wx.heap.size wx wy)
          case first =>
            go_region
            all_goals (
              go_wp2_with fail
              go_meet
              exact ⟨wx.heap.size, rfl, Nat.le_refl _, (BoxAt.new wx _ _).keep (Below.refl _ _).drew, ((Below.refl _ _).alloc (Nat.le_refl _) _).drew⟩)
          case rest =>
            rename World => w3
            obtain ⟨bo, rfl, hbo, hbx, hb3⟩ := hcut
            have HT3 := Lib.hid (HTI.out.later hb3)
            have hz3 := hb3.size
            have hz0 := HTI.out.bel.size
            have hz1 := HTI.out.out.lt
            have HC1 := Lib.hid (cut_any bo 0 X (u : Int) w3 hbx.1 hbx.2 hxl (by omega) (by omega))
            have HBX := Lib.hid hbx
            clear hbx hb3 ku kv kuA kvA hbits
            go_wp2_with fail
            refine HC1.out.mono ?_
            rintro e w4 ⟨rfl, hd4⟩
            rw [Int.toNat_natCast] at hd4
            have hbx4 : BoxAt w4 bo (.int .u32 ((clrM X (2 ^ u) : Nat) : Int)) := (HBX.out.set _).keep (hd4.below _)
            have HT4 : Hid (TwIn w bn n M v u w4) := ⟨(HT3.out.out.setOther (a := ⟨bo, 0, none⟩) (by show _ ≠ bo; omega) _).keep (hd4.below _), (HT3.out.res.setOther (a := ⟨bo, 0, none⟩) (by show _ ≠ bo; omega) _).keep (hd4.below _), (HT3.out.bel.setCell (p := ⟨bo, 0, none⟩) (by show _ ≤ bo; omega) _).trans (hd4.below _)⟩
            have HC2 := Lib.hid (cut_any bo 0 (clrM X (2 ^ u)) (v : Int) w4 hbx4.1 hbx4.2 (clrM_lt _ hxl) (by omega) (by omega))
            have HBX4 := Lib.hid hbx4
            clear hbx4 hd4 HC1 HBX HT3
            go_wp2_with fail
            refine HC2.out.mono ?_
            rintro e w5 ⟨rfl, hd5⟩
            rw [Int.toNat_natCast] at hd5
            have hbx5 : BoxAt w5 bo (.int .u32 ((clrM (clrM X (2 ^ u)) (2 ^ v) : Nat) : Int)) := (HBX4.out.set _).keep (hd5.below _)
            have HT5 : Hid (TwIn w bn n M v u w5) := ⟨(HT4.out.out.setOther (a := ⟨bo, 0, none⟩) (by show _ ≠ bo; omega) _).keep (hd5.below _), (HT4.out.res.setOther (a := ⟨bo, 0, none⟩) (by show _ ≠ bo; omega) _).keep (hd5.below _), (HT4.out.bel.setCell (p := ⟨bo, 0, none⟩) (by show _ ≤ bo; omega) _).trans (hd5.below _)⟩
            have k5 := hbx5.1
            clear hbx5 hd5 HC2 HBX4 HT4
            by_cases h0 : clrM (clrM X (2 ^ u)) (2 ^ v) = 0
            · rw [h0] at k5
              have htw : twinB M u v = true := by unfold twinB; rw [HX.out, beq_iff_eq]; exact h0
              have HRY := Lib.hid (twRow_yes (by omega) htw)
              have hcv := HT5.out.out.cell (i := v) (by omega)
              rw [twTab_at] at hcv
              have HAD := Lib.hid (add_any (w.heap.size + 1) v (twRow M v u) (u : Int) w5 hcv (HT5.out.out.frozen v) (twRow_lt _ _ _) (by omega) (by omega))
              clear h0 htw hcv
              go_wp2_with fail
              refine HAD.out.mono ?_
              rintro e w6 ⟨rfl, hd6⟩
              rw [Int.toNat_natCast, HRY.out] at hd6
              have HT6 : Hid (TwIn w bn n M v (u + 1) w6) := ⟨((HT5.out.out.set v (twRow M v (u + 1)) (by omega)).congr (fun i _ => twTab_put M v u i)).keep (hd6.below _), (HT5.out.res.setOther (a := ⟨w.heap.size + 1, v, none⟩) (by show _ ≠ w.heap.size + 1; omega) _).keep (hd6.below _), (HT5.out.bel.setCell (p := ⟨w.heap.size + 1, v, none⟩) (by show _ ≤ w.heap.size + 1; omega) _).trans (hd6.below _)⟩
              clear hd6 HAD k5
              go_wp2
              go_roundw
              case rel => exact ⟨u + 1, by omega, by go_num, HT6.out⟩
              case measure => simp [intOf]; omega
            · have htw : twinB M u v = false := by unfold twinB; rw [HX.out, beq_eq_false_iff_ne]; exact h0
              have HRN := Lib.hid (twRow_no (k := u) (by omega) htw)
              have HT6 : Hid (TwIn w bn n M v (u + 1) w5) := ⟨HT5.out.out.congr (fun i _ => by rw [← twTab_put, ← HRN.out]; split; (rename_i e; rw [e, twTab_at]); rfl), HT5.out.res, HT5.out.bel⟩
              have q0 : (((clrM (clrM X (2 ^ u)) (2 ^ v) : Nat) : Int) == 0) = false := by rw [beq_eq_false_iff_ne]; omega
              have q1 : ((clrM (clrM X (2 ^ u)) (2 ^ v)) == 0) = false := by rw [beq_eq_false_iff_ne]; exact h0
              clear h0 htw
              go_wp2
              go_roundw
              case rel => exact ⟨u + 1, by omega, by go_num, HT6.out⟩
              case measure => simp [intOf]; omega
        · obtain rfl : u = v := by omega
          have HT2 : Hid (TwIn w bn n M (u + 1) 0 wx) := ⟨HTI.out.out.congr (fun i _ => twTab_next M u i), HTI.out.res, HTI.out.bel⟩
          clear ku kv
          go_wp2
          go_roundw
          case rel => exact ⟨u + 1, by omega, by go_num, HT2.out⟩
          case measure => simp [intOf]; omega
    · obtain rfl : v = n := by omega
      have hto : TabBlk wr (w.heap.size + 1) (twN M v) := HTI.out.out.congr (fun i _ => twTab_all M v i)
      have hrs := HTI.out.res
      have HB := Lib.hid HTI.out.bel
      go_wp2_with (first | (refine wpList_load_row rfl 55 (.tmp 3) rfl (w.heap.size + 1) rfl 55 (tabArr (twN M v)) (0, 0) _ hto Try.underlying55 rfl (by rw [Try.sizeTab]; rfl) ?_) | (refine wpList_store_row rfl 55 (.tmp 2) (.tmp 43) rfl w.heap.size (tabArr (twN M v)) rfl rfl 55 (tabArr (fun _ => 0)) hrs (by rw [Try.sizeTab]; rfl) rfl (tabArr_one _) ?_))
      have HRS := Lib.hid (show TabBlk (wr.setRow w.heap.size (tabArr (twN M v))) w.heap.size (twN M v) from setRow_heap wr w.heap.size _ _ _ _ hrs)
      have HBR : Hid (Below w.heap.size w (wr.setRow w.heap.size (tabArr (twN M v)))) := HB.out.trans ⟨rfl, rfl, rfl, by rw [size_setRow]; exact Nat.le_refl _, fun k hk => setRow_other wr w.heap.size k _ (by omega)⟩
      refine bodyPost_ret (v := .agg (tabArr (twN M v))) (results_cell_row Try.results75 _ _ w.heap.size 55 (tabArr (twN M v)) (0, 0) _ rfl HRS.out Try.underlying55 rfl (by rw [Try.sizeTab]; rfl)) rfl ⟨rfl, HBR.out⟩

end Go.Proofs.Ytgeifbgjfbfcfaa

/- Walks: a choice narrowed to those whose smaller twins are in the list already. -/
namespace Go.Proofs.Ytgeifbgjfbfcfaa
open Go.RowKit Go.Shelf

/-- What twinsInTurn lays and hands back: the box of the graph, the box of the choice, the table of twins. -/
def GaveTwins (w : World) (bn n : Nat) (M : Nat → Nat) (fv : Value) (e : Ending) (w' : World) : Prop :=
  ∃ pw, e = .returned (.func (.func 76) #[] #[.pointer (some ⟨w.heap.size + 1, 0, none⟩), .pointer (some ⟨w.heap.size, 0, none⟩), .pointer (some ⟨pw, 0, none⟩)]) ∧ w.heap.size ≤ pw ∧
    w'.cell? ⟨w.heap.size, 0, none⟩ = some (.pointer (some ⟨bn, 0, none⟩)) ∧ w'.cell? ⟨w.heap.size + 1, 0, none⟩ = some fv ∧ TabBlk w' pw (twN M n) ∧ Below w.heap.size w w'

set_option maxHeartbeats 2000000 in
set_option maxRecDepth 100000 in
theorem twinsInTurn_any (bn n : Nat) (M : Nat → Nat) (fn : Fn) (fs lb : Array Value) (w : World) (h : NetAt w bn n M) (hn : n ≤ 16) (hM : ∀ i, M i < 65536) :
    Calls Try.prog 36 #[.pointer (some ⟨bn, 0, none⟩), .func fn fs lb] w (GaveTwins w bn n M (.func fn fs lb)) := by
  have hmf : ∀ (fn : Fn) (first cap : Array Value) (w : World), (Instr.makeFunc fn first cap).run Try.prog w = .ok (.func fn first cap) w := fun _ _ _ _ => rfl
  have ha : Below w.heap.size w ((w.alloc (.cells #[.pointer (some ⟨bn, 0, none⟩)] 70)).alloc (.cells #[.func fn fs lb] 64)) := ((Below.refl _ _).alloc (Nat.le_refl _) _).alloc (by simp) _
  have HN := Lib.hid (h.keep ha)
  have HA := Lib.hid ha
  have k1 : Hid (((w.alloc (.cells #[.pointer (some ⟨bn, 0, none⟩)] 70)).alloc (.cells #[.func fn fs lb] 64)).cell? ⟨w.heap.size, 0, none⟩ = some (.pointer (some ⟨bn, 0, none⟩))) := by show _ = _; go_simp
  have k2 : Hid (((w.alloc (.cells #[.pointer (some ⟨bn, 0, none⟩)] 70)).alloc (.cells #[.func fn fs lb] 64)).cell? ⟨w.heap.size + 1, 0, none⟩ = some (.func fn fs lb)) := by show _ = _; go_simp
  clear h ha
  go_enter Try.func36, Try.ntmps36
  go_wp2_with fail
  refine (twinsBelow_any bn n M _ HN.out hn hM).mono ?_
  rintro e w1 ⟨rfl, hb1⟩
  have HB1 := Lib.hid hb1
  have hlt : w.heap.size + 1 < w1.heap.size := by have := hb1.size; simp at this; omega
  have htb : TabBlk (w1.alloc (.cells (tabArr (fun _ => 0)) 55)) w1.heap.size (fun _ => 0) := World.alloc_heap_new _ _
  have HT1 : Hid (TabBlk ((w1.alloc (.cells (tabArr (fun _ => 0)) 55)).setRow w1.heap.size (tabArr (twN M n))) w1.heap.size (twN M n)) := setRow_heap _ _ _ _ _ _ htb
  have HR1 : Hid (Below w1.heap.size w1 ((w1.alloc (.cells (tabArr (fun _ => 0)) 55)).setRow w1.heap.size (tabArr (twN M n)))) := ((Below.refl _ _).alloc (Nat.le_refl _) _).trans ⟨rfl, rfl, rfl, by rw [size_setRow]; exact Nat.le_refl _, fun k hk => setRow_other _ _ k _ (by omega)⟩
  have K1 := Lib.hid (cell_keep HR1.out (cell_keep hb1 k1.out))
  have K2 := Lib.hid (cell_keep HR1.out (cell_keep hb1 k2.out))
  have HBF : Hid (Below w.heap.size w ((w1.alloc (.cells (tabArr (fun _ => 0)) 55)).setRow w1.heap.size (tabArr (twN M n)))) := (HA.out.trans (hb1.mono HA.out.size)).trans (HR1.out.mono (by omega))
  clear hb1
  go_wp2_with (refine wpList_store_row rfl 55 (.tmp 5) (.tmp 7) rfl w1.heap.size (tabArr (twN M n)) rfl rfl 55 (tabArr (fun _ => 0)) htb (by rw [Try.sizeTab]; rfl) rfl (tabArr_one _) ?_)
  go_ret
  exact ⟨w1.heap.size, rfl, by omega, K1.out, K2.out, HT1.out, HBF.out⟩

/-- The choice, narrowed. -/
def turnN (C : List Int → Nat) (n : Nat) (Tw : Nat → Nat) (xs : List Int) : Nat := pm (fun v => (C xs).testBit v && (Tw v &&& unN n xs == 0))
theorem turnN_lt (C : List Int → Nat) (n : Nat) (Tw : Nat → Nat) (xs : List Int) : turnN C n Tw xs < 65536 := pm_lt _
theorem turnN_bit {C : List Int → Nat} (hC : ∀ xs, C xs < 65536) {n : Nat} {Tw : Nat → Nat} {xs : List Int} {v : Nat} : (turnN C n Tw xs).testBit v = true ↔ (C xs).testBit v = true ∧ Tw v &&& unN n xs = 0 := by
  unfold turnN
  rw [pm_bit, Bool.and_eq_true, Bool.and_eq_true, decide_eq_true_iff, beq_iff_eq]
  refine ⟨fun h => h.2, fun h => ⟨?_, h⟩⟩
  refine Nat.lt_of_not_le fun hle => ?_
  rw [Nat.testBit_lt_two_pow (Nat.lt_of_lt_of_le (hC xs) (Nat.pow_le_pow_right (n := 2) (by omega) hle : 2 ^ 16 ≤ 2 ^ v))] at h
  cases h.1
/-- .. after the first k of those that may follow. -/
def tnTo (m un : Nat) (Tw : Nat → Nat) : Nat → Nat
  | 0 => m
  | k + 1 => if Tw (nth (listM m) k).toNat &&& un = 0 then tnTo m un Tw k else clrM (tnTo m un Tw k) (2 ^ (nth (listM m) k).toNat)
theorem tnTo_lt {m un : Nat} {Tw : Nat → Nat} (hm : m < 65536) (k : Nat) : tnTo m un Tw k < 65536 := by
  induction k with
  | zero => exact hm
  | succ k ih => rw [tnTo]; split; exact ih; exact clrM_lt _ ih
theorem tnTo_bit {m un : Nat} {Tw : Nat → Nat} (hm : m < 65536) {k : Nat} (hk : k ≤ (listM m).length) (v : Nat) : (tnTo m un Tw k).testBit v = true ↔ m.testBit v = true ∧ ∀ j, j < k → nth (listM m) j = (v : Int) → Tw v &&& un = 0 := by
  induction k with
  | zero => exact ⟨fun h => ⟨h, fun j hj => absurd hj (by omega)⟩, fun h => h.1⟩
  | succ k ih =>
    obtain ⟨x, hx, _, hxe⟩ := (listM_mem _ _).1 (nth_mem (xs := listM m) (i := k) (by omega))
    rw [tnTo, ← hxe, Int.toNat_natCast]
    have ih := ih (by omega)
    split
    · rename_i h0
      rw [ih]
      refine ⟨fun h => ⟨h.1, fun j hj e => ?_⟩, fun h => ⟨h.1, fun j hj e => h.2 j (by omega) e⟩⟩
      rcases Nat.lt_succ_iff_lt_or_eq.1 hj with h2 | rfl
      · exact h.2 j h2 e
      · rw [← hxe] at e; obtain rfl : x = v := by omega
        exact h0
    · rename_i h0
      rw [clrM_bit (tnTo_lt hm k) (pow_lt16 hx), Bool.and_eq_true, ih, Nat.testBit_two_pow, Bool.not_eq_true', decide_eq_false_iff_not]
      constructor
      · rintro ⟨⟨h1, h2⟩, h3⟩
        refine ⟨h1, fun j hj e => ?_⟩
        rcases Nat.lt_succ_iff_lt_or_eq.1 hj with h4 | rfl
        · exact h2 j h4 e
        · rw [← hxe] at e; exact absurd (by omega) h3
      · rintro ⟨h1, h2⟩
        refine ⟨⟨h1, fun j hj e => h2 j (by omega) e⟩, fun e => ?_⟩
        subst e
        exact h0 (h2 k (by omega) hxe.symm)
theorem tnTo_all {C : List Int → Nat} (hC : ∀ xs, C xs < 65536) {n : Nat} {Tw : Nat → Nat} {xs : List Int} : tnTo (C xs) (unN n xs) Tw (listM (C xs)).length = turnN C n Tw xs := bit_ext fun v => by
  rw [tnTo_bit (hC xs) (Nat.le_refl _), turnN_bit hC]
  refine ⟨fun h => ⟨h.1, ?_⟩, fun h => ⟨h.1, fun _ _ _ => h.2⟩⟩
  have hv16 : v < 16 := Nat.lt_of_not_le fun hle => by
    have h1 := h.1
    rw [Nat.testBit_lt_two_pow (Nat.lt_of_lt_of_le (hC xs) (Nat.pow_le_pow_right (n := 2) (by omega) hle : 2 ^ 16 ≤ 2 ^ v))] at h1
    cases h1
  obtain ⟨j, hj, e⟩ := List.getElem_of_mem ((listM_mem (C xs) (v : Int)).2 ⟨v, hv16, h.1, rfl⟩)
  exact h.2 j hj (by rw [nth_eq hj]; exact e)

set_option maxHeartbeats 2000000 in
set_option maxRecDepth 100000 in
theorem twins1_choice (T : Nat → Prop) (w : World) (pn pt pw bn n cf sz : Nat) (lb : Array Value) (M Tw : Nat → Nat) (C : List Int → Nat)
    (ec : ∀ args w, (callFunc cf args).run Try.prog w = .ok (.enter cf args) w) (hch : ChoiceAt T w cf lb sz C) (hC : ∀ xs, C xs < 65536) (hn : n ≤ 16) (hTw : ∀ i, Tw i < 65536)
    (kn : w.cell? ⟨pn, 0, none⟩ = some (.func (.func cf) #[] lb)) (kt : w.cell? ⟨pt, 0, none⟩ = some (.pointer (some ⟨bn, 0, none⟩))) (h : NetAt w bn n M) (ht : TabBlk w pw Tw) (t1 : ¬ T pn) (t2 : ¬ T pt) (t3 : ¬ T bn) (t4 : ¬ T pw) :
    ChoiceAt T w 76 #[.pointer (some ⟨pn, 0, none⟩), .pointer (some ⟨pt, 0, none⟩), .pointer (some ⟨pw, 0, none⟩)] sz (turnN C n Tw) := by
  intro W v xs hk hr hx hl
  have kn1 := hk.cell (a := ⟨pn, 0, none⟩) t1 kn
  have kt1 := hk.cell (a := ⟨pt, 0, none⟩) t2 kt
  have HCA := Lib.hid (hch W v xs hk hr hx hl)
  have HTB := Lib.hid (ht.but hk t4)
  have HNT := Lib.hid (h.but hk t3)
  have KT : Hid (∀ w', Below W.heap.size W w' → w'.cell? ⟨pt, 0, none⟩ = some (.pointer (some ⟨bn, 0, none⟩))) := fun w' hb => cell_keep hb kt1
  have HR := Lib.hid hr
  have HX := Lib.hid hx
  have hCx := hC xs
  have HC := Lib.hid hC
  have HTW := Lib.hid hTw
  clear kn kt h ht hk hch hr hx kt1 hC hTw
  obtain ⟨a0, c0, rfl⟩ := HR.out.slice
  simp only [List.append_toArray, List.cons_append, List.nil_append]
  go_enter Try.func76, Try.ntmps76
  go_wp2_with fail
  refine HCA.out.mono ?_
  rintro e W1 ⟨rfl, hb1⟩
  have hbA : Below W.heap.size W (W1.alloc (.cells #[.int .u32 (C xs : Int)] 54)) := hb1.alloc hb1.size _
  have HBA := Lib.hid hbA
  have HX1 := Lib.hid (BoxAt.new W1 (.int .u32 (C xs : Int)) 54)
  have ktA := KT.out _ hbA
  have hz1 : W.heap.size ≤ W1.heap.size := hb1.size
  clear hb1 hbA kn1
  go_wp2_with fail
  refine (unused_any bn n M _ xs _ (HNT.out.keep HBA.out) hn (HR.out.keep HBA.out) HX.out).mono ?_
  rintro e W2 ⟨rfl, hb2⟩
  have HB2 : Hid (Below W.heap.size W W2) := HBA.out.trans (hb2.mono HBA.out.size)
  have HX2 := Lib.hid (HX1.out.keep hb2)
  have kx2 := HX2.out.1
  have hz2 : W1.heap.size < W2.heap.size := HX2.out.lt
  clear hb2 ktA HX1 HBA
  go_wp2_with fail
  refine (list_any _ _ hCx).mono ?_
  rintro e W3 ⟨n3, a3, c3, rfl, ho3, hb3⟩
  have hls := listM_len (C xs)
  obtain ⟨a3', c3', e3⟩ := ho3.row.slice
  simp only [Value.slice.injEq] at e3
  obtain ⟨rfl, rfl, rfl⟩ := e3
  have HB3 : Hid (Below W.heap.size W W3) := HB2.out.trans (hb3.mono HB2.out.size)
  have HX3 := Lib.hid (HX2.out.keep hb3)
  have HL := Lib.hid ho3
  have hz3 : W2.heap.size ≤ W3.heap.size := hb3.size
  have hul : unN n xs < 65536 := unTo_lt hn _ _
  obtain ⟨U, hU⟩ : ∃ U, unN n xs = U := ⟨_, rfl⟩
  have HUE := Lib.hid hU
  rw [hU] at hul ⊢
  clear ho3 hb3 kx2 HX2 HB2 hU
  go_wp2_with fail
  go_loopw [19] (fun i wr => ∃ k : Nat, k ≤ (listM (C xs)).length ∧ i = .int .i64 k ∧ BoxAt wr W1.heap.size (.int .u32 (tnTo (C xs) U Tw k : Int)) ∧ OwnRow 2 wr W2.heap.size (.slice a3 (listM (C xs)).length c3) (listM (C xs)) ∧ TabBlk wr pw Tw ∧ Below W.heap.size W wr) (fun i _ => (listM (C xs)).length - (intOf i).toNat)
  case atStart => exact ⟨0, Nat.zero_le _, rfl, HX3.out, HL.out, HTB.out.keep HB3.out, HB3.out⟩
  case round =>
    clear HX3 HL HB3
    obtain ⟨k, hk, rfl, hbx, hol, htb, hb⟩ := hrel
    have HBX := Lib.hid hbx
    have HOL := Lib.hid hol
    have HTR := Lib.hid htb
    have HB := Lib.hid hb
    have kx := hbx.1
    clear hbx hol htb hb
    by_cases hlt : k < (listM (C xs)).length
    · obtain ⟨g, cap, e5, hgB, hgl, hc1, hc2⟩ := HOL.out.posB (by omega)
      simp only [Value.slice.injEq, true_and] at e5
      obtain ⟨rfl, rfl⟩ := e5
      have hcq := HOL.out.cells' k hlt
      obtain ⟨x, hx16, hxb, hxe⟩ := (listM_mem _ _).1 (nth_mem hlt)
      rw [← hxe] at hcq
      have hct := HTR.out.cell hx16
      have hTx := HTW.out x
      have hxI : (x : Int) < 16 := by omega
      have hbits : bits BinOp.and IntKind.u32 (Tw x : Int) (U : Int) = ((Tw x &&& U : Nat) : Int) := u32_and_nat _ _ (by omega) (by omega)
      have HSU : Hid (tnTo (C xs) U Tw (k + 1) = if Tw x &&& U = 0 then tnTo (C xs) U Tw k else clrM (tnTo (C xs) U Tw k) (2 ^ x)) := by show _ = _; rw [tnTo, ← hxe, Int.toNat_natCast]
      have hpw : pw < W.heap.size := HTB.out.lt
      clear hxb hxe
      by_cases h0 : Tw x &&& U = 0
      · rw [h0] at hbits
        have HX4 : Hid (BoxAt wr W1.heap.size (.int .u32 (tnTo (C xs) U Tw (k + 1) : Int))) := by show BoxAt _ _ _; rw [HSU.out, if_pos h0]; exact HBX.out
        clear h0 kx
        go_wp2
        go_roundw
        case rel => exact ⟨k + 1, by omega, by go_num, HX4.out, HOL.out, HTR.out, HB.out⟩
        case measure => simp [intOf]; omega
      · have q0 : (((Tw x &&& U : Nat) : Int) != 0) = true := by rw [bne_iff_ne]; omega
        have q1 : ((Tw x &&& U) != 0) = true := by rw [bne_iff_ne]; exact h0
        have HCT := Lib.hid (cut_any W1.heap.size 0 (tnTo (C xs) U Tw k) (x : Int) wr HBX.out.1 HBX.out.2 (tnTo_lt hCx k) (by omega) (by omega))
        have H0 := Lib.hid h0
        clear h0 kx
        go_wp2_with fail
        refine HCT.out.mono ?_
        rintro e w4 ⟨rfl, hd4⟩
        rw [Int.toNat_natCast] at hd4
        have HX4 : Hid (BoxAt w4 W1.heap.size (.int .u32 (tnTo (C xs) U Tw (k + 1) : Int))) := by
          show BoxAt _ _ _
          rw [HSU.out, if_neg H0.out]
          exact (HBX.out.set _).keep (hd4.below _)
        have HO4 := Lib.hid ((HOL.out.blkB (w' := wr.setCell ⟨W1.heap.size, 0, none⟩ (.int .u32 ((clrM (tnTo (C xs) U Tw k) (2 ^ x) : Nat) : Int))) (by rw [heap_setCell_other _ _ _ _ (by show g ≠ W1.heap.size; omega)])).keep (hd4.below _))
        have HT4 := Lib.hid ((HTR.out.setOther (a := ⟨W1.heap.size, 0, none⟩) (by show pw ≠ W1.heap.size; omega) (.int .u32 ((clrM (tnTo (C xs) U Tw k) (2 ^ x) : Nat) : Int))).keep (hd4.below _))
        have HB4 : Hid (Below W.heap.size W w4) := (HB.out.setCell (p := ⟨W1.heap.size, 0, none⟩) (by show _ ≤ W1.heap.size; omega) _).trans (hd4.below _)
        clear hd4 hct hcq hbits q0 q1
        go_wp2
        go_roundw
        case rel => exact ⟨k + 1, by omega, by go_num, HX4.out, HO4.out, HT4.out, HB4.out⟩
        case measure => simp [intOf]; omega
    · obtain rfl : k = (listM (C xs)).length := by omega
      have HE : Hid (tnTo (C xs) U Tw (listM (C xs)).length = turnN C n Tw xs) := by show _ = _; rw [← HUE.out]; exact tnTo_all HC.out
      go_wp2
      go_ret
      exact ⟨by rw [← HE.out]; rfl, HB.out⟩

end Go.Proofs.Ytgeifbgjfbfcfaa
