/- The texts CN3, CN4, joined. -/
import Derived.Test.YtgeifbgjfbfcfaaQCN1
import Derived.Test.YtgeifbgjfbfcfaaQEN5

/- Walks: slices.Compare; the lightest to follow. -/
namespace Go.Proofs.Ytgeifbgjfbfcfaa
open Go.RowKit

set_option maxHeartbeats 1000000 in
theorem isNaN_any (x : Int) (w : World) : Calls Try.prog 105 #[.int .i64 x] w fun e w' => e = .returned (.bool false) ∧ w = w' := by
  have qx : (x != x) = false := by simp
  go_enter Try.func105, Try.ntmps105
  go_wp2
  go_ret
  exact ⟨rfl, rfl⟩
/-- Which is less. -/
def sgnI (x y : Int) : Int := if x < y then -1 else if y < x then 1 else 0
set_option maxHeartbeats 2000000 in
theorem cmpInts_any (x y : Int) (w : World) : Calls Try.prog 79 #[.int .i64 x, .int .i64 y] w fun e w' => e = .returned (.int .i64 (sgnI x y)) ∧ w = w' := by
  go_enter Try.func79, Try.ntmps79
  go_wp2_with fail
  refine (isNaN_any x _).mono ?_
  rintro e w' ⟨rfl, rfl⟩
  go_wp2_with fail
  refine (isNaN_any y _).mono ?_
  rintro e w' ⟨rfl, rfl⟩
  by_cases h1 : x < y
  · have HE : Hid (sgnI x y = -1) := if_pos h1
    go_wp2
    go_ret
    exact ⟨by rw [HE.out]; rfl, rfl⟩
  · by_cases h2 : y < x
    · have HE : Hid (sgnI x y = 1) := by show _ = _; unfold sgnI; rw [if_neg h1, if_pos h2]
      have h3 : x > y := h2
      go_wp2
      go_ret
      exact ⟨by rw [HE.out]; rfl, rfl⟩
    · have HE : Hid (sgnI x y = 0) := by show _ = _; unfold sgnI; rw [if_neg h1, if_neg h2]
      have h3 : ¬ x > y := h2
      go_wp2
      go_ret
      exact ⟨by rw [HE.out]; rfl, rfl⟩

/-- What slices.Compare answers of two lists of one length. -/
def GaveCmp (w : World) (xs ys : List Int) (e : Ending) (w' : World) : Prop := ∃ r : Int, e = .returned (.int .i64 r) ∧ -1 ≤ r ∧ r ≤ 1 ∧ (r < 0 ↔ LexLt xs ys) ∧ w = w'
set_option maxHeartbeats 2000000 in
set_option maxRecDepth 100000 in
theorem compare_any (v v1 : Value) (xs ys : List Int) (w : World) (h : RowAt w v xs) (h1 : RowAt w v1 ys) (hl : ys.length = xs.length) (hs : xs.length ≤ 1048576) : Calls Try.prog 39 #[v, v1] w (GaveCmp w xs ys) := by
  obtain ⟨a0, c0, rfl⟩ := h.slice
  obtain ⟨a1, c1, rfl⟩ := h1.slice
  have HR := Lib.hid h
  have HR1 := Lib.hid h1
  have HL := Lib.hid hl
  rw [hl]
  clear h h1 hl
  go_enter Try.func39, Try.ntmps39
  go_wp2_with fail
  go_loopw [11] (fun i wr => ∃ k : Nat, k ≤ xs.length ∧ i = .int .i64 k ∧ (∀ j, j < k → nth xs j = nth ys j) ∧ wr = w) (fun i _ => xs.length - (intOf i).toNat)
  case atStart => exact ⟨0, Nat.zero_le _, rfl, fun j hj => absurd hj (by omega), rfl⟩
  case round =>
    obtain ⟨k, hk, rfl, hpre, rfl⟩ := hrel
    have HPRE := Lib.hid hpre
    clear hpre
    by_cases hlt : k < xs.length
    · obtain ⟨b, o, c, e1, l1, l2, hc⟩ := HR.out.pos (by omega)
      simp only [Value.slice.injEq, true_and] at e1
      obtain ⟨rfl, rfl⟩ := e1
      obtain ⟨b', o', c', e2, l3, l4, hc'⟩ := HR1.out.pos (by rw [HL.out]; omega)
      rw [HL.out] at e2
      simp only [Value.slice.injEq, true_and] at e2
      obtain ⟨rfl, rfl⟩ := e2
      have ck := hc k hlt
      have ck' := hc' k (by rw [HL.out]; exact hlt)
      obtain ⟨x, hx⟩ : ∃ x, nth xs k = x := ⟨_, rfl⟩
      obtain ⟨y, hy⟩ : ∃ y, nth ys k = y := ⟨_, rfl⟩
      rw [hx] at ck
      rw [hy] at ck'
      have HX := Lib.hid hx
      have HY := Lib.hid hy
      have hkI : (k : Int) < (xs.length : Int) := by omega
      have hge : ¬ ((k : Int) ≥ (xs.length : Int)) := by omega
      clear hc hc' hx hy
      go_wp2_with fail
      refine (cmpInts_any x y _).mono ?_
      rintro e w' ⟨rfl, rfl⟩
      clear ck ck'
      rcases Int.lt_trichotomy x y with hxy | hxy | hxy
      · have hE : sgnI x y = -1 := if_pos hxy
        rw [hE]
        have HF : Hid (LexLt xs ys) := ⟨k, hlt, by rw [HL.out]; exact hlt, HPRE.out, by rw [HX.out, HY.out]; exact hxy⟩
        clear hE
        go_wp2
        go_ret
        exact ⟨-1, rfl, by omega, by omega, ⟨fun _ => HF.out, fun _ => by omega⟩, rfl⟩
      · have hE : sgnI x y = 0 := by unfold sgnI; rw [if_neg (by omega), if_neg (by omega)]
        rw [hE]
        have HEQ : Hid (∀ j, j < k + 1 → nth xs j = nth ys j) := fun j hj => by
          rcases Nat.lt_succ_iff_lt_or_eq.1 hj with h | rfl
          · exact HPRE.out j h
          · rw [HX.out, HY.out]; exact hxy
        clear hE hxy
        go_wp2
        go_roundw
        case rel => exact ⟨k + 1, by omega, by go_num, HEQ.out, by first | rfl | trivial⟩
        case measure => simp [intOf]; omega
      · have hE : sgnI x y = 1 := by unfold sgnI; rw [if_neg (by omega), if_pos hxy]
        rw [hE]
        have HF : Hid (¬ LexLt xs ys) := fun h => lex_asymm h ⟨k, by rw [HL.out]; exact hlt, hlt, fun j hj => (HPRE.out j hj).symm, by rw [HX.out, HY.out]; exact hxy⟩
        clear hE
        go_wp2
        go_ret
        exact ⟨1, rfl, by omega, by omega, ⟨fun h => absurd h (by omega), fun h => absurd h HF.out⟩, rfl⟩
    · obtain rfl : k = xs.length := by omega
      have HF : Hid (¬ LexLt xs ys) := fun ⟨j, h1, _, _, h4⟩ => by have := HPRE.out j h1; omega
      have hnn : ¬ ((xs.length : Int) < (xs.length : Int)) := by omega
      go_wp2
      go_ret
      exact ⟨0, rfl, by omega, by omega, ⟨fun h => absurd h (by omega), fun h => absurd h HF.out⟩, rfl⟩

set_option maxHeartbeats 2000000 in
set_option maxRecDepth 100000 in
theorem lightest_any (bn n : Nat) (M : Nat → Nat) (v : Value) (xs : List Int) (w : World) (h : NetAt w bn n M) (hn : n ≤ 16) (hM : ∀ i, M i < 65536) (hr : RowAt w v xs) (hx : InL xs) :
    Calls Try.prog 37 #[.pointer (some ⟨bn, 0, none⟩), v] w fun e w' => e = .returned (.int .u32 (litN M n xs : Int)) ∧ Below w.heap.size w w' := by
  have hlm := hr.len
  unfold maxLen at hlm
  obtain ⟨a0, c0, rfl⟩ := hr.slice
  have HR := Lib.hid hr
  have HX := Lib.hid hx
  have HN := Lib.hid h
  have HM := Lib.hid hM
  have HUL := Lib.hid (un_lt hn xs)
  clear h hr hx hM
  go_enter Try.func37, Try.ntmps37
  go_wp2_with fail
  refine (unused_any bn n M _ xs _ HN.out hn HR.out HX.out).mono ?_
  rintro e w1 ⟨rfl, hb1⟩
  have HB1 := Lib.hid hb1
  have HN1 := Lib.hid (HN.out.keep hb1)
  have HR1 := Lib.hid (HR.out.keep hb1)
  clear hb1
  go_wp2_with fail
  go_loopw [5, 14] (fun ov i wr => ∃ k : Nat, k ≤ xs.length ∧ i = .int .i64 k ∧ ov = .int .u32 (litTo M n xs k : Int) ∧ wr = w1) (fun _ i _ => xs.length - (intOf i).toNat)
  case atStart => exact ⟨0, Nat.zero_le _, rfl, rfl, rfl⟩
  case round =>
    obtain ⟨k, hk, rfl, rfl, rfl⟩ := hrel
    have hrl := litTo_lt (M := M) HUL.out k
    by_cases hlt : k < xs.length
    · obtain ⟨b, o, c, e1, l1, l2, hc⟩ := HR1.out.pos (by omega)
      simp only [Value.slice.injEq, true_and] at e1
      obtain ⟨rfl, rfl⟩ := e1
      have hck := hc k hlt
      have hxk := HX.out k hlt
      obtain ⟨x, hxe⟩ : ∃ x : Nat, nth xs k = (x : Int) := ⟨(nth xs k).toNat, by omega⟩
      rw [hxe] at hck hxk
      have hx16 : x < 16 := by omega
      have hcm := HN1.out.2 x hx16
      have hMx := HM.out x
      have hbits : bits BinOp.andNot IntKind.u32 (litTo M n xs k : Int) (M x : Int) = ((clrM (litTo M n xs k) (M x) : Nat) : Int) := by
        rw [u32_andNot_nat _ _ (by omega) (by omega)]; rfl
      have HST : Hid (litTo M n xs (k + 1) = if clrM (litTo M n xs k) (M x) ≠ 0 then clrM (litTo M n xs k) (M x) else litTo M n xs k) := by show _ = _; rw [litTo, hxe, Int.toNat_natCast]
      have hkI : (k : Int) < (xs.length : Int) := by omega
      obtain ⟨q, hq⟩ : ∃ q, clrM (litTo M n xs k) (M x) = q := ⟨_, rfl⟩
      rw [hq] at HST hbits
      clear hc hxe hq
      by_cases hq0 : q = 0
      · rw [if_neg (by omega)] at HST
        subst hq0
        go_wp2
        go_roundw
        case rel => exact ⟨k + 1, by omega, by go_num, by rw [HST.out], by first | rfl | trivial⟩
        case measure => simp [intOf]; omega
      · rw [if_pos hq0] at HST
        have hb1 : ((q : Int) != 0) = true := by rw [bne_iff_ne]; omega
        have hb2 : (q != 0) = true := by rw [bne_iff_ne]; exact hq0
        go_wp2
        go_roundw
        case rel => exact ⟨k + 1, by omega, by go_num, by rw [HST.out], by first | rfl | trivial⟩
        case measure => simp [intOf]; omega
    · obtain rfl : k = xs.length := by omega
      go_wp2
      go_ret
      exact ⟨rfl, HB1.out⟩

end Go.Proofs.Ytgeifbgjfbfcfaa

/- Walks: the lightest to follow, narrowed to those whose smaller twins are in the list already. -/
namespace Go.Proofs.Ytgeifbgjfbfcfaa
open Go.RowKit Go.Shelf

set_option maxHeartbeats 2000000 in
set_option maxRecDepth 100000 in
theorem twins1_bound (T : Nat → Prop) (w : World) (pn pt pw bn n sz : Nat) (M Tw : Nat → Nat) (C : List Int → Nat) (hCE : C = litN M n)
    (hC : ∀ xs, C xs < 65536) (hn : n ≤ 16) (hM : ∀ i, M i < 65536) (hTw : ∀ i, Tw i < 65536)
    (kn : w.cell? ⟨pn, 0, none⟩ = some (.func (.func 37) #[.pointer (some ⟨bn, 0, none⟩)] #[])) (kt : w.cell? ⟨pt, 0, none⟩ = some (.pointer (some ⟨bn, 0, none⟩))) (h : NetAt w bn n M) (ht : TabBlk w pw Tw) (t1 : ¬ T pn) (t2 : ¬ T pt) (t3 : ¬ T bn) (t4 : ¬ T pw) :
    ChoiceAt T w 76 #[.pointer (some ⟨pn, 0, none⟩), .pointer (some ⟨pt, 0, none⟩), .pointer (some ⟨pw, 0, none⟩)] sz (turnN C n Tw) := by
  intro W v xs hk hr hx hl
  have kn1 := hk.cell (a := ⟨pn, 0, none⟩) t1 kn
  have kt1 := hk.cell (a := ⟨pt, 0, none⟩) t2 kt
  have HCA : Hid (Calls Try.prog 37 #[.pointer (some ⟨bn, 0, none⟩), v] W fun e W' => e = .returned (.int .u32 (C xs : Int)) ∧ Below W.heap.size W W') := by rw [hCE]; exact lightest_any bn n M v xs W (h.but hk t3) hn hM hr hx
  have ec := enters_of Try.func37 (by kernel_rfl) rfl
  have HTB := Lib.hid (ht.but hk t4)
  have HNT := Lib.hid (h.but hk t3)
  have KT : Hid (∀ w', Below W.heap.size W w' → w'.cell? ⟨pt, 0, none⟩ = some (.pointer (some ⟨bn, 0, none⟩))) := fun w' hb => cell_keep hb kt1
  have HR := Lib.hid hr
  have HX := Lib.hid hx
  have hCx := hC xs
  have HC := Lib.hid hC
  have HTW := Lib.hid hTw
  clear kn kt h ht hk hr hx kt1 hC hTw hCE hM
  obtain ⟨a0, c0, rfl⟩ := HR.out.slice
  simp only [List.append_toArray, List.cons_append, List.nil_append]
  go_enter Try.func76, Try.ntmps76
  go_wp2_with fail
  refine HCA.out.mono ?_
  rintro e W1 ⟨rfl, hb1⟩
  have hbA : Below W.heap.size W (W1.alloc (.cells #[.int .u32 (C xs : Int)] 54)) := hb1.alloc hb1.size _
  have HBA := Lib.hid hbA
  have HX1 := Lib.hid (BoxAt.new W1 (.int .u32 (C xs : Int)) 54)
  have ktA := KT.out _ hbA
  have hz1 : W.heap.size ≤ W1.heap.size := hb1.size
  clear hb1 hbA kn1
  go_wp2_with fail
  refine (unused_any bn n M _ xs _ (HNT.out.keep HBA.out) hn (HR.out.keep HBA.out) HX.out).mono ?_
  rintro e W2 ⟨rfl, hb2⟩
  have HB2 : Hid (Below W.heap.size W W2) := HBA.out.trans (hb2.mono HBA.out.size)
  have HX2 := Lib.hid (HX1.out.keep hb2)
  have kx2 := HX2.out.1
  have hz2 : W1.heap.size < W2.heap.size := HX2.out.lt
  clear hb2 ktA HX1 HBA
  go_wp2_with fail
  refine (list_any _ _ hCx).mono ?_
  rintro e W3 ⟨n3, a3, c3, rfl, ho3, hb3⟩
  have hls := listM_len (C xs)
  obtain ⟨a3', c3', e3⟩ := ho3.row.slice
  simp only [Value.slice.injEq] at e3
  obtain ⟨rfl, rfl, rfl⟩ := e3
  have HB3 : Hid (Below W.heap.size W W3) := HB2.out.trans (hb3.mono HB2.out.size)
  have HX3 := Lib.hid (HX2.out.keep hb3)
  have HL := Lib.hid ho3
  have hz3 : W2.heap.size ≤ W3.heap.size := hb3.size
  have hul : unN n xs < 65536 := unTo_lt hn _ _
  obtain ⟨U, hU⟩ : ∃ U, unN n xs = U := ⟨_, rfl⟩
  have HUE := Lib.hid hU
  rw [hU] at hul ⊢
  clear ho3 hb3 kx2 HX2 HB2 hU
  go_wp2_with fail
  go_loopw [19] (fun i wr => ∃ k : Nat, k ≤ (listM (C xs)).length ∧ i = .int .i64 k ∧ BoxAt wr W1.heap.size (.int .u32 (tnTo (C xs) U Tw k : Int)) ∧ OwnRow 2 wr W2.heap.size (.slice a3 (listM (C xs)).length c3) (listM (C xs)) ∧ TabBlk wr pw Tw ∧ Below W.heap.size W wr) (fun i _ => (listM (C xs)).length - (intOf i).toNat)
  case atStart => exact ⟨0, Nat.zero_le _, rfl, HX3.out, HL.out, HTB.out.keep HB3.out, HB3.out⟩
  case round =>
    clear HX3 HL HB3
    obtain ⟨k, hk, rfl, hbx, hol, htb, hb⟩ := hrel
    have HBX := Lib.hid hbx
    have HOL := Lib.hid hol
    have HTR := Lib.hid htb
    have HB := Lib.hid hb
    have kx := hbx.1
    clear hbx hol htb hb
    by_cases hlt : k < (listM (C xs)).length
    · obtain ⟨g, cap, e5, hgB, hgl, hc1, hc2⟩ := HOL.out.posB (by omega)
      simp only [Value.slice.injEq, true_and] at e5
      obtain ⟨rfl, rfl⟩ := e5
      have hcq := HOL.out.cells' k hlt
      obtain ⟨x, hx16, hxb, hxe⟩ := (listM_mem _ _).1 (nth_mem hlt)
      rw [← hxe] at hcq
      have hct := HTR.out.cell hx16
      have hTx := HTW.out x
      have hxI : (x : Int) < 16 := by omega
      have hbits : bits BinOp.and IntKind.u32 (Tw x : Int) (U : Int) = ((Tw x &&& U : Nat) : Int) := u32_and_nat _ _ (by omega) (by omega)
      have HSU : Hid (tnTo (C xs) U Tw (k + 1) = if Tw x &&& U = 0 then tnTo (C xs) U Tw k else clrM (tnTo (C xs) U Tw k) (2 ^ x)) := by show _ = _; rw [tnTo, ← hxe, Int.toNat_natCast]
      have hpw : pw < W.heap.size := HTB.out.lt
      clear hxb hxe
      by_cases h0 : Tw x &&& U = 0
      · rw [h0] at hbits
        have HX4 : Hid (BoxAt wr W1.heap.size (.int .u32 (tnTo (C xs) U Tw (k + 1) : Int))) := by show BoxAt _ _ _; rw [HSU.out, if_pos h0]; exact HBX.out
        clear h0 kx
        go_wp2
        go_roundw
        case rel => exact ⟨k + 1, by omega, by go_num, HX4.out, HOL.out, HTR.out, HB.out⟩
        case measure => simp [intOf]; omega
      · have q0 : (((Tw x &&& U : Nat) : Int) != 0) = true := by rw [bne_iff_ne]; omega
        have q1 : ((Tw x &&& U) != 0) = true := by rw [bne_iff_ne]; exact h0
        have HCT := Lib.hid (cut_any W1.heap.size 0 (tnTo (C xs) U Tw k) (x : Int) wr HBX.out.1 HBX.out.2 (tnTo_lt hCx k) (by omega) (by omega))
        have H0 := Lib.hid h0
        clear h0 kx
        go_wp2_with fail
        refine HCT.out.mono ?_
        rintro e w4 ⟨rfl, hd4⟩
        rw [Int.toNat_natCast] at hd4
        have HX4 : Hid (BoxAt w4 W1.heap.size (.int .u32 (tnTo (C xs) U Tw (k + 1) : Int))) := by
          show BoxAt _ _ _
          rw [HSU.out, if_neg H0.out]
          exact (HBX.out.set _).keep (hd4.below _)
        have HO4 := Lib.hid ((HOL.out.blkB (w' := wr.setCell ⟨W1.heap.size, 0, none⟩ (.int .u32 ((clrM (tnTo (C xs) U Tw k) (2 ^ x) : Nat) : Int))) (by rw [heap_setCell_other _ _ _ _ (by show g ≠ W1.heap.size; omega)])).keep (hd4.below _))
        have HT4 := Lib.hid ((HTR.out.setOther (a := ⟨W1.heap.size, 0, none⟩) (by show pw ≠ W1.heap.size; omega) (.int .u32 ((clrM (tnTo (C xs) U Tw k) (2 ^ x) : Nat) : Int))).keep (hd4.below _))
        have HB4 : Hid (Below W.heap.size W w4) := (HB.out.setCell (p := ⟨W1.heap.size, 0, none⟩) (by show _ ≤ W1.heap.size; omega) _).trans (hd4.below _)
        clear hd4 hct hcq hbits q0 q1
        go_wp2
        go_roundw
        case rel => exact ⟨k + 1, by omega, by go_num, HX4.out, HO4.out, HT4.out, HB4.out⟩
        case measure => simp [intOf]; omega
    · obtain rfl : k = (listM (C xs)).length := by omega
      have HE : Hid (tnTo (C xs) U Tw (listM (C xs)).length = turnN C n Tw xs) := by show _ = _; rw [← HUE.out]; exact tnTo_all HC.out
      go_wp2
      go_ret
      exact ⟨by rw [← HE.out]; rfl, HB.out⟩

end Go.Proofs.Ytgeifbgjfbfcfaa
