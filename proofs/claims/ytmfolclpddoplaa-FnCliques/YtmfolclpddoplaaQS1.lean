/- The texts S1, S2, S3, S4, U1, joined. -/
import Derived.Test.YtmfolclpddoplaaQJ1
import Derived.Test.YtmfolclpddoplaaQM7
import Derived.Test.YtmfolclpddoplaaQH0
import Derived.Test.YtmfolclpddoplaaQJ5
import Derived.Test.YtmfolclpddoplaaQN3
import Derived.Test.YtmfolclpddoplaaQD5
import Derived.Test.YtmfolclpddoplaaQM4
import Derived.Test.YtmfolclpddoplaaQM9

/- Walks: the laws' dice. -/
namespace Go.Proofs.Ytmfolclpddoplaa
open Go.RowKit

theorem and24_u64 (x : Int) : 0 ≤ bits BinOp.and IntKind.u64 x 16777215 ∧ bits BinOp.and IntKind.u64 x 16777215 ≤ 16777215 := by
  have e : bits BinOp.and IntKind.u64 x 16777215 = IntKind.u64.wrap ((BitVec.ofInt 64 x &&& BitVec.ofInt 64 16777215).toNat : Int) := rfl
  rw [e, BitVec.toNat_and]
  have h1 : (BitVec.ofInt 64 16777215).toNat = 16777215 := by decide
  have h2 : (BitVec.ofInt 64 x).toNat &&& 16777215 ≤ 16777215 := Nat.and_le_right
  rw [h1]
  simp only [IntKind.wrap, IntKind.signed, IntKind.bits]
  generalize (BitVec.ofInt 64 x).toNat &&& 16777215 = y at h2
  simp
  omega

/-- Block d holds dice over the n bytes of bv. -/
def DiceAt (w : World) (d : Nat) (bv : Value) (n : Nat) : Prop := ∃ (i : Nat) (h : Int), i ≤ n ∧ w.heap[d]? = some (.cells #[bv, .int .i64 (i : Int), .int .u64 h] 57 (0, 0))
theorem DiceAt.keepB {w w' : World} {c n B : Nat} {bv : Value} (h : DiceAt w c bv n) (hb : Below B w w') (hB : c < B) : DiceAt w' c bv n := by
  obtain ⟨i, k, hi, hh⟩ := h
  exact ⟨i, k, hi, by rw [hb.block c hB]; exact hh⟩
theorem DiceAt.lt {w : World} {c n : Nat} {bv : Value} (h : DiceAt w c bv n) : c < w.heap.size := by
  obtain ⟨i, k, hi, hh⟩ := h
  exact (Array.getElem?_eq_some_iff.1 hh).1
theorem DiceAt.keep {w w' : World} {c n : Nat} {bv : Value} (h : DiceAt w c bv n) (hb : Below w.heap.size w w') : DiceAt w' c bv n := h.keepB hb h.lt
/-- A number has been rolled: it fulfils p; only the dice have turned. -/
def Rolled (w : World) (d : Nat) (bv : Value) (n : Nat) (p : Int → Prop) (e : Ending) (w' : World) : Prop :=
  ∃ x : Int, e = .returned (.int .i64 x) ∧ p x ∧ DiceAt w' d bv n ∧ OnlyBlk d w w'
theorem dice_set2 {w : World} {c : Nat} {bv : Value} {i h : Int} {T : TypeId} (hh : w.heap[c]? = some (.cells #[bv, .int .i64 i, .int .u64 h] T (0, 0))) (h' : Int) : (w.setCell ⟨c, 2, none⟩ (.int .u64 h')).heap[c]? = some (.cells #[bv, .int .i64 i, .int .u64 h'] T (0, 0)) := heap_setCell_same w c 2 _ _ _ hh
theorem dice_set1 {w : World} {c : Nat} {bv : Value} {i h : Int} {T : TypeId} (hh : w.heap[c]? = some (.cells #[bv, .int .i64 i, .int .u64 h] T (0, 0))) (i' : Int) : (w.setCell ⟨c, 1, none⟩ (.int .i64 i')).heap[c]? = some (.cells #[bv, .int .i64 i', .int .u64 h] T (0, 0)) := heap_setCell_same w c 1 _ _ _ hh

theorem roll_small {y : Int} (h : 0 ≤ y ∧ y ≤ 16777215) : 0 ≤ wrap64 y := by
  unfold wrap64
  omega
theorem roll_small2 {y : Int} {x : Nat} (h : 0 ≤ y ∧ y ≤ 16777215) (hx : x < 256) : 0 ≤ wrap64 (wrap64 y + (x : Int)) := by
  unfold wrap64
  omega

set_option maxHeartbeats 1600000 in
set_option maxRecDepth 100000 in
theorem below_any (c n : Nat) (bv : Value) (m : Int) (w : World) (hc : DiceAt w c bv n) (hb : BytesAt w c bv n) (hm : 1 ≤ m) (hm2 : I64 m) : Calls Try.prog 55 #[.pointer (some ⟨c, 0, none⟩), .int .i64 m] w (Rolled w c bv n (InBelow m)) := by
  obtain ⟨i, h, hi, hh⟩ := hc
  obtain ⟨hn, a, cap, rfl, hbs⟩ := hb
  have k0 : w.cell? ⟨c, 0, none⟩ = some (.slice a n cap) := by rw [cell_of_row w c 0 _ _ _ hh]; rfl
  have k1 : w.cell? ⟨c, 1, none⟩ = some (.int .i64 (i : Int)) := by rw [cell_of_row w c 1 _ _ _ hh]; rfl
  have k2 : w.cell? ⟨c, 2, none⟩ = some (.int .u64 h) := by rw [cell_of_row w c 2 _ _ _ hh]; rfl
  have f1 : w.frozen? ⟨c, 1, none⟩ = false := frozen_of_row w c 1 _ _ hh
  have f2 : w.frozen? ⟨c, 2, none⟩ = false := frozen_of_row w c 2 _ _ hh
  have HH := Lib.hid hh
  have HBS := Lib.hid hbs
  have hm0 : (m == 0) = false := by rw [beq_eq_false_iff_ne]; omega
  unfold I64 at hm2
  clear hh hbs
  by_cases hlt : i < n
  · have hd : decide ((i : Int) < (n : Int)) = true := by simp; omega
    obtain ⟨b, o, rfl, hbc, hcs⟩ := HBS.out (by omega)
    obtain ⟨x, hx, hcx⟩ := hcs i hlt
    have hne : b ≠ c := by omega
    clear hcs
    go_enter Try.func55, Try.ntmps55
    go_wp2
    go_quiet (fail)
    go_wp2
    go_quiet (fail)
    go_wp2
    go_ret
    have ho := ((OnlyBlk.refl c w).setCell 2 (.int .u64 (IntKind.u64.wrap (IntKind.u64.wrap (h * 6364136223846793005) + 1442695040888963407)))).setCell 1 (.int .i64 ((i + 1 : Nat) : Int))
    exact ⟨_, rfl, inBelow_rem (roll_small2 (and24_u64 _) hx) (by omega), ⟨i + 1, _, hlt, dice_set1 (dice_set2 HH.out (IntKind.u64.wrap (IntKind.u64.wrap (h * 6364136223846793005) + 1442695040888963407))) _⟩, ⟨ho.os, ho.tape, ho.output, ho.size, ho.other⟩⟩
  · have hd : decide ((i : Int) < (n : Int)) = false := by simp; omega
    go_enter Try.func55, Try.ntmps55
    go_wp2
    go_quiet (fail)
    go_wp2
    go_ret
    exact ⟨_, rfl, inBelow_rem (roll_small (and24_u64 _)) (by omega), ⟨i, _, hi, dice_set2 HH.out _⟩, ((OnlyBlk.refl c w).setCell 2 _).drewN _⟩

end Go.Proofs.Ytmfolclpddoplaa

/- Walks: dice made of a code; a set and a graph rolled. -/
namespace Go.Proofs.Ytmfolclpddoplaa
open Go.RowKit

set_option maxHeartbeats 1600000 in
set_option maxRecDepth 100000 in
theorem roll_any (bv : Value) (n : Nat) (s : Int) (w : World) (hb : BytesAt w w.heap.size bv n) : Calls Try.prog 14 #[bv, .int .u64 s] w (fun e w' => e = .returned (.pointer (some ⟨w.heap.size, 0, none⟩)) ∧ DiceAt w' w.heap.size bv n ∧ Below w.heap.size w w') := by
  obtain ⟨hn, a, cap, rfl, hbs⟩ := hb
  have HBS := Lib.hid hbs
  clear hbs
  go_enter Try.func14, Try.ntmps14
  go_wp2_with fail
  go_loopw [6] (fun i wr => ∃ k : Nat, k ≤ n ∧ i = .int .i64 k ∧ (∃ h : Int, wr.heap[w.heap.size]? = some (.cells #[.slice a n cap, .int .i64 0, .int .u64 h] 57 (0, 0))) ∧ Below w.heap.size w wr) (fun i _ => n - (intOf i).toNat)
  case atStart => exact ⟨0, Nat.zero_le _, rfl, ⟨_, heap_alloc_new _ _⟩, (Below.refl _ _).alloc (Nat.le_refl _) _⟩
  case round =>
    obtain ⟨k, hk, rfl, ⟨h, hh⟩, hb⟩ := hrel
    have HH := Lib.hid hh
    have HB := Lib.hid hb
    have k2 : wr.cell? ⟨w.heap.size, 2, none⟩ = some (.int .u64 h) := by rw [cell_of_row wr w.heap.size 2 _ _ _ hh]; rfl
    have f2 : wr.frozen? ⟨w.heap.size, 2, none⟩ = false := frozen_of_row wr w.heap.size 2 _ _ hh
    clear hh
    by_cases hlt : k < n
    · obtain ⟨b, o, rfl, hbc, hcs⟩ := HBS.out (by omega)
      obtain ⟨x, hx, hcx⟩ := hcs k hlt
      have hck := cell_keep hb hcx
      have hne : b ≠ w.heap.size := by omega
      clear hcs hb hcx
      go_wp2_with fail
      go_region
      all_goals (
        go_wp2
        go_roundw
        case rel => exact ⟨k + 1, by omega, by go_num, ⟨_, dice_set2 HH.out _⟩, (HB.out.setCell (Nat.le_refl _) _).drew⟩
        case measure => simp [intOf]; omega)
    · obtain rfl : k = n := by omega
      clear hb
      go_wp2
      go_ret
      exact ⟨rfl, ⟨0, h, Nat.zero_le _, HH.out⟩, HB.out⟩

/-- A row has been rolled: strictly increasing numbers below m; beside new memory only the dice have turned. -/
def RolledSet (w : World) (d : Nat) (bv : Value) (n m : Nat) (e : Ending) (w' : World) : Prop :=
  ∃ xs a k c, e = .returned (.slice a k c) ∧ SetP xs m ∧ OwnRow 2 w' w.heap.size (.slice a k c) xs ∧ DiceAt w' d bv n ∧ Touched d (d + 1) w w'

theorem SetP.snoc {xs : List Int} {m : Nat} (h : SetP xs m) : SetP (xs ++ [(m : Int)]) ((m + 1 : Nat) : Int) := by
  refine SetP.mk ?_ ?_
  · rw [List.pairwise_append]
    refine ⟨h.pairwise, by simp, fun a ha b hb => ?_⟩
    simp at hb
    have := h.bounds a ha
    omega
  · intro x hx
    rcases List.mem_append.1 hx with hx | hx
    · have := h.bounds x hx; omega
    · simp at hx; omega
theorem SetP.wider {xs : List Int} {m : Nat} (h : SetP xs m) : SetP xs ((m + 1 : Nat) : Int) := SetP.mk h.pairwise (fun x hx => by have := h.bounds x hx; omega)

end Go.Proofs.Ytmfolclpddoplaa

/- Walks: a graph rolled. -/
namespace Go.Proofs.Ytmfolclpddoplaa
open Go.RowKit

theorem own_gempty {T T1 : TypeId} (w : World) : OwnGrid T T1 (w.alloc (.cells #[] T1)) w.heap.size (.slice (some ⟨w.heap.size, 0, none⟩) 0 0) [] :=
  ⟨fun _ => .slice none 0 0, by simp, Or.inr ⟨w.heap.size, 0, #[], rfl, Nat.le_refl _, heap_alloc_new _ _, Nat.le_refl _, by simp, rfl, fun i hi => absurd hi (by simp)⟩, fun i hi => absurd hi (by simp), fun i j k _ hj => absurd hj (by simp)⟩

/-- A graph has been rolled: a right one, of at most so many vertices; beside new memory only the dice have turned. -/
def RolledGraph (w : World) (d : Nat) (bv : Value) (n most : Nat) (e : Ending) (w' : World) : Prop :=
  ∃ L m a c, e = .returned (.agg #[.slice a m c]) ∧ GraphP L ∧ L.length ≤ most ∧ OwnGrid 2 31 w' w.heap.size (.slice a m c) L ∧ DiceAt w' d bv n ∧ Touched d (d + 1) w w'

theorem of_right {n : Nat} {E : List (List Int)} (h : OfP (n : Int) E) : GraphP (ofL (n : Int) E) := by
  have hn : 1 ≤ n ∧ n ≤ 16 := by have := h.1; simp [inB] at this; omega
  rw [ofL, if_pos h, Int.toNat_natCast]
  have e : maskL n (edgeM E E.length) = adjL n (fun i j => (edgeM E E.length i).testBit j) := by
    apply nthR_ext
    · rw [maskL_len, adjL_len]
    · intro i hi
      rw [maskL_len] at hi
      rw [maskL_nth _ hi, adjL_nth _ hi, pm_of (edgeM_lt (n := (n : Int)) (by omega) _ h.2.2 i)]
  rw [e]
  have hbit := edgeM_bit (n := (n : Int)) (by omega) E.length h.2.2
  refine adjL_graph hn ?_ ?_ ?_
  · intro i j hb
    obtain ⟨q, hq, hh⟩ := (hbit i j).1 hb
    obtain ⟨_, h1, h2, h3⟩ := h.2.2 q hq
    omega
  · intro i j
    rw [Bool.eq_iff_iff, hbit i j, hbit j i]
    constructor
    · rintro ⟨q, hq, hh⟩; exact ⟨q, hq, hh.symm⟩
    · rintro ⟨q, hq, hh⟩; exact ⟨q, hq, hh.symm⟩
  · intro i
    cases hb : (edgeM E E.length i).testBit i with
    | false => rfl
    | true =>
      obtain ⟨q, hq, hh⟩ := (hbit i i).1 hb
      obtain ⟨_, h1, h2, h3⟩ := h.2.2 q hq
      omega
theorem of_len {n : Nat} {E : List (List Int)} (h : OfP (n : Int) E) : (ofL (n : Int) E).length = n := by rw [ofL, if_pos h, Int.toNat_natCast, maskL_len]

set_option maxHeartbeats 3200000 in
set_option maxRecDepth 100000 in
theorem w5Graph_any (d n most : Nat) (bv : Value) (w : World) (hd : DiceAt w d bv n) (hb : BytesAt w d bv n) (hm1 : 1 ≤ most) (hm : most ≤ 9) : Calls Try.prog 15 #[.pointer (some ⟨d, 0, none⟩), .int .i64 (most : Int)] w (RolledGraph w d bv n most) := by
  obtain ⟨i0, hi, hz0, hz1, hz2⟩ := info_parts Try.infoR
  have hdl := hd.lt
  have hbA : Below w.heap.size w (w.alloc (.cells #[.slice none 0 0] 29)) := (Below.refl _ _).alloc (Nat.le_refl _) _
  have HD0 := Lib.hid (hd.keep hbA)
  have BX0 := Lib.hid (BoxAt.new w (.slice none 0 0) 29)
  have HT0 : Hid (Touched d (d + 1) w (w.alloc (.cells #[.slice none 0 0] 29))) := Touched.ofBelow hbA
  have HBY := Lib.hid hb
  clear hd hb hbA
  go_enter Try.func15, Try.ntmps15
  go_wp2_with fail
  refine (below_any d n bv (most : Int) _ HD0.out (HT0.out.bytes HBY.out (Nat.le_of_lt hdl)) (by omega) (by unfold I64; omega)).mono ?_
  rintro e w1 ⟨x1, rfl, hx1, hd1, ho1⟩
  obtain ⟨m0, rfl⟩ : ∃ m0 : Nat, x1 = (m0 : Int) := ⟨x1.toNat, by have := (hx1.2 (by omega)).1; omega⟩
  have hm0 : m0 < most := by have := (hx1.2 (by omega)).2; omega
  have HD1 := Lib.hid hd1
  have HT1 := Lib.hid (HT0.out.only ho1)
  have BX1 := Lib.hid (BX0.out.only ho1 (by omega))
  clear hx1 hd1 ho1 HD0 HT0 BX0
  go_wp2_with fail
  refine (below_any d n bv 3 _ HD1.out (HT1.out.bytes HBY.out (Nat.le_of_lt hdl)) (by omega) (by unfold I64; omega)).mono ?_
  rintro e w2 ⟨x2, rfl, hx2, hd2, ho2⟩
  have hx20 := hx2.2 (by omega)
  obtain ⟨hx20, hx21⟩ := hx20
  have HD2 := Lib.hid hd2
  have HT2 := Lib.hid (HT1.out.only ho2)
  have BX2 := Lib.hid (BX1.out.only ho2 (by omega))
  have hz2' : w.heap.size < w2.heap.size := BX2.out.lt
  have hbE : Below w2.heap.size w2 (w2.alloc (.cells #[] 31)) := (Below.refl _ _).alloc (Nat.le_refl _) _
  have HD3 := Lib.hid (HD2.out.keep hbE)
  have HT3 := Lib.hid (HT2.out.under hbE (Nat.le_of_lt hz2'))
  have BX3 := Lib.hid (BX2.out.keep hbE)
  have HOE := Lib.hid (own_gempty (T := 2) (T1 := 31) w2)
  clear hx2 hd2 ho2 HD1 HT1 BX1 HD2 HT2 BX2 hbE
  obtain ⟨m, hme⟩ : ∃ m, m = m0 + 1 := ⟨_, rfl⟩
  have hmI : (1 : Int) + (m0 : Int) = (m : Int) := by omega
  have hmm : m ≤ most := by omega
  have hm1' : 1 ≤ m := by omega
  clear hme hm0
  go_wp2_with fail
  clear hmI
  go_loopw [7, 8] (fun s i wr => ∃ k : Nat, 1 ≤ k ∧ k ≤ m ∧ i = .int .i64 k ∧ (∃ E, (∀ q, q < E.length → EdgeP (nthR E q) (m : Int)) ∧ E.length ≤ 8 * k ∧ OwnGrid 2 31 wr (w.heap.size + 1) s E) ∧ BoxAt wr w.heap.size (.slice none 0 0) ∧ DiceAt wr d bv n ∧ Touched d (d + 1) w wr) (fun _ i _ => m - (intOf i).toNat)
  case atStart => exact ⟨1, Nat.le_refl _, by omega, rfl, ⟨[], fun q hq => absurd hq (by simp), by simp, HOE.out.mono (by omega)⟩, BX3.out, HD3.out, HT3.out⟩
  case round =>
    obtain ⟨k, hk1, hk, rfl, ⟨E, hE, hEl, ho⟩, hbx, hdi, ht⟩ := hrel
    have HE := Lib.hid hE
    have HO := Lib.hid ho
    have HBX := Lib.hid hbx
    have HDI := Lib.hid hdi
    have HT := Lib.hid ht
    clear hE ho hbx hdi ht
    by_cases hlt : k < m
    · go_wp2_with fail
      go_loopw [7, 9] (fun s i wr => ∃ q : Nat, q ≤ k ∧ i = .int .i64 q ∧ (∃ E, (∀ q, q < E.length → EdgeP (nthR E q) (m : Int)) ∧ E.length ≤ 8 * k + q ∧ OwnGrid 2 31 wr (w.heap.size + 1) s E) ∧ BoxAt wr w.heap.size (.slice none 0 0) ∧ DiceAt wr d bv n ∧ Touched d (d + 1) w wr) (fun _ i _ => k - (intOf i).toNat)
      case atStart => exact ⟨0, Nat.zero_le _, rfl, ⟨E, HE.out, hEl, HO.out⟩, HBX.out, HDI.out, HT.out⟩
      case round =>
        rename World => w4
        obtain ⟨q, hq, rfl, ⟨F, hF, hFl, ho⟩, hbx, hdi, ht⟩ := hrel
        have HF := Lib.hid hF
        have HO4 := Lib.hid ho
        have HBX4 := Lib.hid hbx
        have HDI4 := Lib.hid hdi
        have HT4 := Lib.hid ht
        clear hF ho hbx hdi ht
        by_cases hql : q < k
        · go_wp2_with fail
          refine (below_any d n bv 4 _ HDI4.out (HT4.out.bytes HBY.out (Nat.le_of_lt hdl)) (by omega) (by unfold I64; omega)).mono ?_
          rintro e w5 ⟨x5, rfl, hx5, hd5, ho5⟩
          have HD5 := Lib.hid hd5
          have HT5 := Lib.hid (HT4.out.only ho5)
          have BX5 := Lib.hid (HBX4.out.only ho5 (by omega))
          have HO5 := Lib.hid (HO4.out.touched (ho5.touched (Nat.le_refl _) (Nat.lt_succ_self _)) (by omega))
          have hz5 : w.heap.size < w5.heap.size := BX5.out.lt
          clear hx5 hd5 ho5
          by_cases hlx : x5 < 1 + x2
          · have hdx : decide (x5 < 1 + x2) = true := by simpa using hlx
            obtain ⟨R, hR, hRr, hRd⟩ := HO5.out.owns
            have HR := Lib.hid hR
            have HRr := Lib.hid hRr
            have HRd := Lib.hid hRd
            have hbw : Below w5.heap.size w5 ((w5.alloc (.cells #[.int .i64 (q : Int), .int .i64 (k : Int)] 2)).alloc (.cells #[.slice (some ⟨w5.heap.size, 0, none⟩) 2 2] 31)) := ((Below.refl _ _).alloc (Nat.le_refl _) _).alloc (by simp) _
            have HBW := Lib.hid hbw
            clear hR hRr hRd hlx hbw
            go_wp2_with (at_builtin; refine wpList_append_own _ rfl (.tmp 34) (.tmp 38) 27 rfl (w.heap.size + 1) 31 i0 (.slice none 0 0) 1 24 Try.underlying27 hi hz0 hz1 hz2 rfl (by decide) _ _ _ rfl ((HR.out.alloc _).alloc _) ⟨w5.heap.size + 1, 0, none⟩ 1 1 [.slice (some ⟨w5.heap.size, 0, none⟩) 2 2] rfl rfl ?c1 ?c2 ?c3 ?c4 ?c5 ?_)
            case c1 =>
              intro j u hj
              match j, hj with
              | 0, hj => simp at hj; subst hj; simp [Addr.add]
            case c2 => intro u hu; simp at hu; subst hu; rfl
            case c3 => unfold maxLen; omega
            case c4 => omega
            case c5 => simp; omega
            intro v' w6 hown' hgrow _
            have hog6 : OwnGrid 2 31 w6 (w.heap.size + 1) v' (F ++ [[(q : Int), (k : Int)]]) := by
              refine OwnGrid.snoc (w0 := w5) (w := (w5.alloc (.cells #[.int .i64 (q : Int), .int .i64 (k : Int)] 2)).alloc (.cells #[.slice (some ⟨w5.heap.size, 0, none⟩) 2 2] 31)) (rv := .slice (some ⟨w5.heap.size, 0, none⟩) 2 2) (by decide) HBW.out (by omega) ?_ rfl (by unfold maxLen; omega) R HR.out HRr.out HRd.out hown' hgrow
              exact (own_two (by unfold I64; omega) (by unfold I64; omega)).keep ((Below.refl _ _).alloc (Nat.le_refl _) _)
            have hb6 : Below (w.heap.size + 1) w5 w6 := (HBW.out.mono (by omega)).grown hgrow (by simp; omega) (fun j hj => (HR.out.lt j hj).1)
            have HO6 := Lib.hid hog6
            have HD6 := Lib.hid (HD5.out.keepB hb6 (by omega))
            have HT6 := Lib.hid (HT5.out.under hb6 (by omega))
            have BX6 := Lib.hid (BX5.out.keepB hb6 (by omega))
            clear hown' hgrow hog6 hb6
            go_wp2
            go_roundw
            case rel =>
              refine ⟨q + 1, by omega, by go_num, ⟨F ++ [[(q : Int), (k : Int)]], fun p hp => ?_, by rw [List.length_append, List.length_singleton]; omega, HO6.out⟩, BX6.out, HD6.out, HT6.out⟩
              rw [List.length_append, List.length_singleton] at hp
              by_cases hp2 : p < F.length
              · rw [nthR_append_old hp2]; exact HF.out p hp2
              · obtain rfl : p = F.length := by omega
                rw [nthR_append_last]
                exact ⟨rfl, by show (0 : Int) ≤ (q : Int); omega, by show (q : Int) < (k : Int); omega, by show (k : Int) < (m : Int); omega⟩
            case measure => simp [intOf]; omega
          · have hdx : decide (x5 < 1 + x2) = false := by simpa using hlx
            clear hlx
            go_wp2
            go_roundw
            case rel => exact ⟨q + 1, by omega, by go_num, ⟨F, HF.out, by omega, HO5.out⟩, BX5.out, HD5.out, HT5.out⟩
            case measure => simp [intOf]; omega
        · obtain rfl : q = k := by omega
          go_wp2
          go_roundw
          case rel => exact ⟨q + 1, by omega, by omega, by go_num, ⟨F, HF.out, by omega, HO4.out⟩, HBX4.out, HDI4.out, HT4.out⟩
          case measure => simp [intOf]; omega
    · obtain rfl : k = m := by omega
      have hof : OfP (k : Int) E := ⟨by simp [inB]; omega, by omega, HE.out⟩
      have HOF := Lib.hid hof
      obtain ⟨aE, cE, eE⟩ := HO.out.grid.slice
      rw [eE]
      have HGE : Hid (GridAt wr (.slice aE E.length cE) E) := by have := HO.out.grid; rw [eE] at this; exact this
      clear hof eE
      go_wp2_with fail
      refine (specGraphOf_any _ (k : Int) E _ HGE.out).mono ?_
      rintro e w7 ⟨n7, a7, c7, rfl, ho7, hb7⟩
      rw [decide_eq_true HOF.out]
      have HD7 := Lib.hid (HDI.out.keep hb7)
      have hzr : w.heap.size < wr.heap.size := HBX.out.lt
      have HT7 := Lib.hid (HT.out.under hb7 (Nat.le_of_lt hzr))
      have BX7 := Lib.hid (HBX.out.keep hb7)
      have hbq : Below w7.heap.size w7 (w7.alloc (.cells #[.slice a7 n7 c7] 29)) := (Below.refl _ _).alloc (Nat.le_refl _) _
      have HO8 := Lib.hid (ho7.keep hbq)
      have HD8 := Lib.hid (HD7.out.keep hbq)
      have BX8 := Lib.hid (BX7.out.keep hbq)
      have hz7 : w.heap.size ≤ w7.heap.size := Nat.le_trans (Nat.le_of_lt hzr) hb7.size
      have HT8 := Lib.hid (HT7.out.under hbq hz7)
      have kr := BX8.out.1
      have kf := BX8.out.2
      clear ho7 hb7 hbq
      go_wp2
      have q0 : ((w7.alloc (.cells #[.slice a7 n7 c7] 29)).setCell ⟨w.heap.size, 0, none⟩ (.slice a7 n7 c7)).cell? ⟨w.heap.size, 0, none⟩ = some (.slice a7 n7 c7) := cell_set_same _ BX8.out.1
      refine bodyPost_ret (v := .agg #[.slice a7 n7 c7]) (by simp [results, Try.results15, go_sem, q0]) rfl ⟨ofL (k : Int) E, n7, a7, c7, rfl, of_right HOF.out, by rw [of_len HOF.out]; omega, ?_, ?_, ?_⟩
      · exact (HO8.out.setBelow (by simp; omega) _).mono (by omega)
      · exact HD8.out.keepB ((Below.refl w.heap.size _).setCell (Nat.le_refl _) _) hdl
      · exact HT8.out.under ((Below.refl w.heap.size _).setCell (Nat.le_refl _) _) (Nat.le_refl _)

end Go.Proofs.Ytmfolclpddoplaa

/- Plain facts: what is added and cut is undone; the complement of the complement; a vertex added and cut; edges of both counted. -/
namespace Go.Proofs.Ytmfolclpddoplaa
open Go.RowKit

theorem adjL_linked {n : Nat} (A : Nat → Nat → Bool) {x y : Nat} (hx : x < n) (hy : y < n) (hl : n ≤ 16) (hxy : x ≠ y) : ((adjL n A).set x (listM (pm (A x) ||| 2 ^ y))).set y (listM (pm (A y) ||| 2 ^ x)) = adjL n (linkA A x y) := by
  have := maskL_link n (fun i => pm (A i)) x y hxy
  rw [adjL, this, adjL]
  apply nthR_ext
  · rw [maskL_len, maskL_len]
  · intro i hi
    rw [maskL_len] at hi
    rw [maskL_nth _ hi, maskL_nth _ hi, linkM_pm A (by omega) (by omega) hxy]
theorem addEL_adj {L : List (List Int)} (hG : GraphP L) {p q : Nat} (hp : p < L.length) (hq : q < L.length) (hpq : p ≠ q) : (L.set p (listM (rowM L p ||| 2 ^ q))).set q (listM (rowM L q ||| 2 ^ p)) = adjL L.length (linkA (adjB L) p q) := by
  have h := adjL_linked (adjB L) hp hq hG.1.2 hpq
  rw [graph_adjL hG, ← rowM_pm hG, ← rowM_pm hG] at h
  exact h
theorem wo_pm (f : Nat → Bool) {x : Nat} (_hx : x < 16) : wo (listM (pm f)) (x : Int) = listM (pm (fun j => f j && j != x)) := by
  refine sets_eq (SetP.mk ((listM_set _).pairwise.sublist List.filter_sublist) (fun z hz => (listM_set (pm f)).bounds z ((wo_mem _ _ _).1 hz).1)) (listM_set _) (fun z => ?_)
  rw [wo_mem, listM_mem, listM_mem]
  constructor
  · rintro ⟨⟨i, h1, h2, rfl⟩, h3⟩
    refine ⟨i, h1, ?_, rfl⟩
    rw [pm_bit, Bool.and_eq_true] at h2
    rw [pm_bit, h2.2, (by rw [bne_iff_ne]; omega : (i != x) = true)]
    simp [h1]
  · rintro ⟨i, h1, h2, rfl⟩
    rw [pm_bit, Bool.and_eq_true, Bool.and_eq_true, bne_iff_ne] at h2
    exact ⟨⟨i, h1, by rw [pm_bit, h2.2.1]; simp [h1], rfl⟩, by have := h2.2.2; omega⟩
/-- .. without the edge x y. -/
def unA (A : Nat → Nat → Bool) (x y i j : Nat) : Bool := A i j && !((i == x && j == y) || (i == y && j == x))
theorem cutEL_adj {n : Nat} (A : Nat → Nat → Bool) {p q : Nat} (hp : p < n) (hq : q < n) (hn : n ≤ 16) (hpq : p ≠ q) : ((adjL n A).set p (wo (nthR (adjL n A) p) (q : Int))).set q (wo (nthR (adjL n A) q) (p : Int)) = adjL n (unA A p q) := by
  apply nthR_ext
  · simp [adjL_len]
  · intro i hi
    rw [List.length_set, List.length_set, adjL_len] at hi
    rw [adjL_nth _ hi, adjL_nth _ hp, adjL_nth _ hq, wo_pm _ (by omega), wo_pm _ (by omega)]
    by_cases e1 : q = i
    · subst e1
      unfold nthR
      rw [List.getD_eq_getElem?_getD, List.getElem?_set_self (by rw [List.length_set, adjL_len]; exact hi)]
      show listM _ = listM _
      congr 1
      refine pm_congr (fun j _ => ?_)
      unfold unA
      have : (q == p) = false := by rw [beq_eq_false_iff_ne]; exact fun e => hpq e.symm
      rw [this]
      simp [bne]
    · rw [nthR_set_ne _ e1]
      by_cases e2 : p = i
      · subst e2
        unfold nthR
        rw [List.getD_eq_getElem?_getD, List.getElem?_set_self (by rw [adjL_len]; exact hi)]
        show listM _ = listM _
        congr 1
        refine pm_congr (fun j _ => ?_)
        unfold unA
        have : (p == q) = false := by rw [beq_eq_false_iff_ne]; exact hpq
        rw [this]
        simp [bne]
      · rw [nthR_set_ne _ e2, adjL_nth _ hi]
        congr 1
        refine pm_congr (fun j _ => ?_)
        unfold unA
        have h1 : (i == p) = false := by rw [beq_eq_false_iff_ne]; exact fun e => e2 e.symm
        have h2 : (i == q) = false := by rw [beq_eq_false_iff_ne]; exact fun e => e1 e.symm
        rw [h1, h2]; simp
theorem linkA_graph {L : List (List Int)} (hG : GraphP L) {p q : Nat} (hp : p < L.length) (hq : q < L.length) (hpq : p ≠ q) : GraphP (adjL L.length (linkA (adjB L) p q)) := by
  refine adjL_graph hG.1 ?_ ?_ ?_
  · intro i j h
    unfold linkA at h
    simp only [Bool.or_eq_true, Bool.and_eq_true, beq_iff_eq] at h
    rcases h with (h | h) | h
    · exact (adjB_range hG h).2
    · omega
    · omega
  · intro i j
    unfold linkA
    rw [adjB_sym hG i j]
    cases adjB L j i <;> cases (i == p) <;> cases (j == q) <;> cases (i == q) <;> cases (j == p) <;> rfl
  · intro i
    unfold linkA
    rw [adjB_self hG]
    by_cases h : i = p
    · subst h
      have : (i == q) = false := by rw [beq_eq_false_iff_ne]; exact hpq
      rw [this]; simp
    · have : (i == p) = false := by rw [beq_eq_false_iff_ne]; exact h
      rw [this]; simp
theorem unA_graph {L : List (List Int)} (hG : GraphP L) (p q : Nat) : GraphP (adjL L.length (unA (adjB L) p q)) := by
  refine adjL_graph hG.1 ?_ ?_ ?_
  · intro i j h
    unfold unA at h
    rw [Bool.and_eq_true] at h
    exact (adjB_range hG h.1).2
  · intro i j
    unfold unA
    rw [adjB_sym hG i j]
    cases adjB L j i <;> cases (i == p) <;> cases (j == q) <;> cases (i == q) <;> cases (j == p) <;> rfl
  · intro i
    unfold unA
    rw [adjB_self hG, Bool.false_and]
theorem edgeB_adj {L : List (List Int)} (hG : GraphP L) {p q : Nat} (hp : p < L.length) (hq : q < L.length) : edgeB L (p : Int) (q : Int) = adjB L p q := by
  unfold edgeB inB
  have hz := hG.1
  rw [decide_eq_true hG, decide_eq_true (by omega : (0 : Int) ≤ (p : Int) ∧ (p : Int) ≤ (L.length : Int) - 1), decide_eq_true (by omega : (0 : Int) ≤ (q : Int) ∧ (q : Int) ≤ (L.length : Int) - 1), Int.toNat_natCast, adjB_has hG hp (by omega)]
  simp
theorem addB_adj {L : List (List Int)} (hG : GraphP L) {p q : Nat} (hp : p < L.length) (hq : q < L.length) : addB L (p : Int) (q : Int) = (((p : Int) != (q : Int)) && !edgeB L (p : Int) (q : Int)) := by
  have hz := hG.1
  rw [edgeB_adj hG hp hq]
  unfold addB pairB inB
  rw [decide_eq_true hG, decide_eq_true (by omega : (0 : Int) ≤ (p : Int) ∧ (p : Int) ≤ (L.length : Int) - 1), decide_eq_true (by omega : (0 : Int) ≤ (q : Int) ∧ (q : Int) ≤ (L.length : Int) - 1), Int.toNat_natCast, adjB_has hG hp (by omega)]
  simp

/-- Cutting an added edge restores the graph. -/
theorem undone_add {L : List (List Int)} {p q : Nat} (h : addB L (p : Int) (q : Int) = true) : GraphP (addEL L (p : Int) (q : Int)) ∧ edgeB (addEL L (p : Int) (q : Int)) (q : Int) (p : Int) = true ∧ cutEL (addEL L (p : Int) (q : Int)) (q : Int) (p : Int) = L := by
  obtain ⟨hG, p', q', ep, eq, hp, hq, hpq, hadj⟩ := addB_nat h
  obtain rfl : p = p' := by omega
  obtain rfl : q = q' := by omega
  have hz := hG.1
  have hX : addEL L (p : Int) (q : Int) = adjL L.length (linkA (adjB L) p q) := by
    rw [addEL, if_pos h, Int.toNat_natCast, Int.toNat_natCast, addEL_adj hG hp hq hpq]
  have hGX := linkA_graph hG hp hq hpq
  have he : edgeB (adjL L.length (linkA (adjB L) p q)) (q : Int) (p : Int) = true := by
    rw [edgeB_adj hGX (by rw [adjL_len]; exact hq) (by rw [adjL_len]; exact hp), adjB_adjL hGX hq (by omega)]
    unfold linkA; simp
  rw [hX]
  refine ⟨hGX, he, ?_⟩
  rw [cutEL, if_pos he, Int.toNat_natCast, Int.toNat_natCast, cutEL_adj _ hq hp hz.2 (fun e => hpq e.symm)]
  have : adjL L.length (unA (linkA (adjB L) p q) q p) = adjL L.length (adjB L) := by
    refine adjL_congr (fun i _ j _ => ?_)
    unfold unA linkA
    by_cases e1 : i = p ∧ j = q
    · obtain ⟨rfl, rfl⟩ := e1; rw [hadj]; simp
    · by_cases e2 : i = q ∧ j = p
      · obtain ⟨rfl, rfl⟩ := e2; rw [adjB_sym hG, hadj]; simp
      · have c1 : (i == p && j == q) = false := by cases h : (i == p && j == q) with | false => rfl | true => (simp at h; exact absurd h e1)
        have c2 : (i == q && j == p) = false := by cases h : (i == q && j == p) with | false => rfl | true => (simp at h; exact absurd h e2)
        rw [c1, c2]; simp
  rw [this, graph_adjL hG]
/-- Adding a cut edge restores the graph. -/
theorem undone_cut {L : List (List Int)} {p q : Nat} (h : edgeB L (p : Int) (q : Int) = true) : GraphP (cutEL L (p : Int) (q : Int)) ∧ addB (cutEL L (p : Int) (q : Int)) (q : Int) (p : Int) = true ∧ addEL (cutEL L (p : Int) (q : Int)) (q : Int) (p : Int) = L := by
  obtain ⟨hG, p', q', ep, eq, hp, hq, hpq⟩ := edgeB_nat h
  obtain rfl : p = p' := by omega
  obtain rfl : q = q' := by omega
  have hz := hG.1
  have hadj : adjB L p q = true := by rw [← edgeB_adj hG hp hq]; exact h
  have hX : cutEL L (p : Int) (q : Int) = adjL L.length (unA (adjB L) p q) := by
    have h1 := cutEL_adj (adjB L) hp hq hz.2 hpq
    rw [graph_adjL hG] at h1
    rw [cutEL, if_pos h, Int.toNat_natCast, Int.toNat_natCast, h1]
  have hGX := unA_graph hG p q
  have ha : addB (adjL L.length (unA (adjB L) p q)) (q : Int) (p : Int) = true := by
    rw [addB_adj hGX (by rw [adjL_len]; exact hq) (by rw [adjL_len]; exact hp), edgeB_adj hGX (by rw [adjL_len]; exact hq) (by rw [adjL_len]; exact hp), adjB_adjL hGX hq (by omega)]
    unfold unA
    simp; omega
  rw [hX]
  refine ⟨hGX, ha, ?_⟩
  rw [addEL, if_pos ha, Int.toNat_natCast, Int.toNat_natCast, addEL_adj hGX (by rw [adjL_len]; exact hq) (by rw [adjL_len]; exact hp) (fun e => hpq e.symm), adjL_len]
  have : adjL L.length (linkA (adjB (adjL L.length (unA (adjB L) p q))) q p) = adjL L.length (adjB L) := by
    refine adjL_congr (fun i hi j hj => ?_)
    unfold linkA
    rw [adjB_adjL hGX hi hj]
    unfold unA
    by_cases e1 : i = p ∧ j = q
    · obtain ⟨rfl, rfl⟩ := e1; rw [hadj]; simp
    · by_cases e2 : i = q ∧ j = p
      · obtain ⟨rfl, rfl⟩ := e2; rw [adjB_sym hG, hadj]; simp
      · have c1 : (i == p && j == q) = false := by cases h : (i == p && j == q) with | false => rfl | true => (simp at h; exact absurd h e1)
        have c2 : (i == q && j == p) = false := by cases h : (i == q && j == p) with | false => rfl | true => (simp at h; exact absurd h e2)
        rw [c1, c2]; simp
  rw [this, graph_adjL hG]
/-- The complement of the complement. -/
theorem comp_graph {L : List (List Int)} (hG : GraphP L) : GraphP (compL L) ∧ (compL L).length = L.length := by
  rw [compL, if_pos hG]
  exact ⟨adjL_graph hG.1 (fun i j h => (compA_range h).2) (compA_sym hG) (compA_self L), adjL_len _ _⟩
theorem comp_comp {L : List (List Int)} (hG : GraphP L) : compL (compL L) = L := by
  have hz := hG.1
  obtain ⟨hGc, hlen⟩ := comp_graph hG
  rw [compL, if_pos hGc, hlen]
  have : adjL L.length (compA (compL L)) = adjL L.length (adjB L) := by
    refine adjL_congr (fun i hi j hj => ?_)
    have e : adjB (compL L) i j = compA L i j := by
      rw [compL, if_pos hG] at hGc ⊢
      exact adjB_adjL hGc hi hj
    unfold compA
    rw [e, hlen]
    unfold compA
    by_cases hjl : j < L.length
    · rw [decide_eq_true hi, decide_eq_true hjl]
      by_cases hij : i = j
      · subst hij; rw [adjB_self hG]; simp
      · have : (i != j) = true := by rw [bne_iff_ne]; exact hij
        rw [this]; simp
    · rw [decide_eq_false hjl]
      cases hb : adjB L i j with
      | false => simp
      | true => exact absurd (adjB_range hG hb).2 hjl
  rw [this, graph_adjL hG]
/-- Cutting an added vertex restores the graph. -/
theorem undone_vertex {L : List (List Int)} {xs : List Int} (hG : GraphP L) (hs : SetP xs L.length) (hn : L.length < 16) : avB L xs = true ∧ GraphP (avL L xs) ∧ cutB (avL L xs) (L.length : Int) = true ∧ cutL (avL L xs) (L.length : Int) = L := by
  have hz := hG.1
  have hav : avB L xs = true := by
    unfold avB setB
    rw [decide_eq_true hG, decide_eq_true hs, (by rw [beq_eq_false_iff_ne]; omega : ((L.length : Int) == 16) = false)]; rfl
  have hr : ∀ z : Nat, hasB xs (z : Int) = true → z < L.length := by
    intro z hz
    have := hs.bounds _ ((hasB_mem _ _).1 hz)
    omega
  have hX : avL L xs = adjL (L.length + 1) (avA L xs) := by rw [avL, if_pos hav]
  have hGX : GraphP (adjL (L.length + 1) (avA L xs)) := by
    refine adjL_graph ⟨by omega, by omega⟩ ?_ ?_ ?_
    · intro i j h
      unfold avA at h
      simp only [Bool.or_eq_true, Bool.and_eq_true, beq_iff_eq] at h
      rcases h with (h | h) | h
      · have := (adjB_range hG h).2; omega
      · have := hr j h.2; omega
      · omega
    · intro i j
      unfold avA
      rw [adjB_sym hG i j]
      cases adjB L j i <;> cases (i == L.length && hasB xs (j : Int)) <;> cases (j == L.length && hasB xs (i : Int)) <;> rfl
    · intro i
      unfold avA
      rw [adjB_self hG]
      by_cases h : i = L.length
      · have : hasB xs (i : Int) = false := by
          cases hb : hasB xs (i : Int) with
          | false => rfl
          | true => exact absurd (hr i hb) (by omega)
        rw [this]; simp
      · have : (i == L.length) = false := by rw [beq_eq_false_iff_ne]; exact h
        rw [this]; simp
  have hcB : cutB (adjL (L.length + 1) (avA L xs)) (L.length : Int) = true := by
    unfold cutB inB
    rw [decide_eq_true hGX, adjL_len, decide_eq_true (by omega : (0 : Int) ≤ (L.length : Int) ∧ (L.length : Int) ≤ ((L.length + 1 : Nat) : Int) - 1), (by rw [beq_eq_false_iff_ne]; omega : (((L.length + 1 : Nat) : Int) == 1) = false)]
    rfl
  refine ⟨hav, by rw [hX]; exact hGX, by rw [hX]; exact hcB, ?_⟩
  rw [hX, cutL, pickL, if_pos hcB, adjL_len, Int.toNat_natCast]
  have hrest : restL (L.length + 1) L.length = allL L.length := by
    rw [← wo_all (by omega) (by omega), allL_succ]
    unfold wo
    rw [List.filter_append, List.filter_eq_self.2]
    · simp
    · intro z hz
      obtain ⟨i, hi, rfl⟩ := (allL_mem _ _).1 hz
      rw [bne_iff_ne]; omega
  rw [hrest, allL_len]
  have hnth : ∀ i, i < L.length → nth (allL L.length) i = (i : Int) := fun i hi => by simp [nth, allL, hi]
  have : adjL L.length (pickA (adjL (L.length + 1) (avA L xs)) (allL L.length)) = adjL L.length (adjB L) := by
    refine adjL_congr (fun i hi j hj => ?_)
    unfold pickA
    rw [allL_len]
    by_cases hjl : j < L.length
    · rw [decide_eq_true hi, decide_eq_true hjl, hnth i hi, hnth j hjl, Int.toNat_natCast, Int.toNat_natCast, adjB_adjL hGX (by omega) hj]
      unfold avA
      have h1 : (i == L.length) = false := by rw [beq_eq_false_iff_ne]; omega
      have h2 : (j == L.length) = false := by rw [beq_eq_false_iff_ne]; omega
      rw [h1, h2]; simp
    · rw [decide_eq_false hjl]
      cases hb : adjB L i j with
      | false => simp
      | true => exact absurd (adjB_range hG hb).2 hjl
  rw [this, graph_adjL hG]

/-- Edges of a graph and of its complement. -/
theorem comp_bits {L : List (List Int)} (hG : GraphP L) {i : Nat} (hi : i < L.length) : bitsTo (pm (compA L i)) 16 + bitsTo (rowM L i) 16 + 1 = L.length := by
  have hz := hG.1
  have key : ∀ k, k ≤ 16 → bitsTo (pm (compA L i)) k + bitsTo (rowM L i) k + (if i < k then 1 else 0) = min k L.length := by
    intro k
    induction k with
    | zero => intro _; simp [bitsTo]
    | succ k ih =>
      intro hk
      have h1 := ih (by omega)
      rw [bitsTo_sum, bitsTo_sum] at h1 ⊢
      simp only [sumTo]
      have e1 : (pm (compA L i)).testBit k = compA L i k := by rw [pm_bit]; simp; omega
      have e2 : (rowM L i).testBit k = adjB L i k := rfl
      rw [e1, e2]
      by_cases hkl : k < L.length
      · have ec : compA L i k = ((i != k) && !adjB L i k) := by unfold compA; rw [decide_eq_true hi, decide_eq_true hkl]; simp
        by_cases hik : i = k
        · subst hik
          have e3 : adjB L i i = false := adjB_self hG i
          have e4 : (i != i) = false := by simp
          rw [ec, e3, e4]
          simp only [Nat.lt_irrefl, if_false, Nat.lt_succ_self, if_true, Bool.false_and] at h1 ⊢
          simp
          omega
        · have e4 : (i != k) = true := by rw [bne_iff_ne]; exact hik
          rw [ec, e4, Bool.true_and]
          have hlt : (i < k + 1) = (i < k) := by apply propext; omega
          simp only [hlt]
          cases adjB L i k
          · simp; omega
          · simp; omega
      · have ec : compA L i k = false := by unfold compA; rw [decide_eq_false hkl]; simp
        have ea : adjB L i k = false := by
          cases hb : adjB L i k with
          | false => rfl
          | true => exact absurd (adjB_range hG hb).2 hkl
        rw [ec, ea]
        have hlt1 : i < k := by omega
        have hlt2 : i < k + 1 := by omega
        simp only [hlt1, hlt2, if_true] at h1 ⊢
        simp
        omega
  have := key 16 (Nat.le_refl _)
  rw [if_pos (by omega)] at this
  omega
theorem sumTo_const (c n : Nat) : sumTo (fun _ => c) n = c * n := by
  induction n with
  | zero => simp [sumTo]
  | succ n ih => simp only [sumTo, ih, Nat.mul_succ]
theorem comp_many {L : List (List Int)} (hG : GraphP L) : 2 * (manyN (compL L) + manyN L) = (L.length : Int) * ((L.length : Int) - 1) := by
  have hz := hG.1
  obtain ⟨hGc, hlen⟩ := comp_graph hG
  have h1 := bits_edges hG
  have h2 := bits_edges hGc
  have hrow : ∀ {M : List (List Int)}, GraphP M → sumTo (fun i => bitsTo (rowM M i) 16) 16 = sumTo (fun i => bitsTo (rowM M i) 16) M.length := by
    intro M hM
    have hzM := hM.1
    have := sumTo_split (fun i => bitsTo (rowM M i) 16) M.length (16 - M.length) (fun i h1 _ => by
      have : rowM M i = 0 := by unfold rowM; exact if_neg (by omega)
      show bitsTo (rowM M i) 16 = 0
      rw [this, bitsTo_zero])
    rw [show M.length + (16 - M.length) = 16 from by omega] at this
    exact this
  rw [hrow hG] at h1
  rw [hrow hGc, hlen] at h2
  have h3 : sumTo (fun i => bitsTo (rowM (compL L) i) 16) L.length = sumTo (fun i => bitsTo (pm (compA L i)) 16) L.length := sumTo_congr (fun i hi => by
    have : rowM (compL L) i = pm (compA L i) := by
      rw [compL, if_pos hG] at hGc ⊢
      exact rowM_adjL hGc hi
    rw [this])
  rw [h3] at h2
  have h4 : sumTo (fun i => bitsTo (pm (compA L i)) 16 + bitsTo (rowM L i) 16) L.length = sumTo (fun _ => L.length - 1) L.length := sumTo_congr (fun i hi => by have := comp_bits hG hi; omega)
  rw [sumTo_add, sumTo_const, h1, h2] at h4
  have e1 : manyN L = ((edgesTo L L.length).length : Int) := by unfold manyN; rw [edgesL, if_pos hG]
  have e2 : manyN (compL L) = ((edgesTo (compL L) L.length).length : Int) := by unfold manyN; rw [edgesL, if_pos hGc, hlen]
  rw [e1, e2]
  have h5 : (((L.length - 1) * L.length : Nat) : Int) = (L.length : Int) * ((L.length : Int) - 1) := by
    rw [Int.natCast_mul, Int.mul_comm]
    congr 1
    omega
  rw [← h5]
  omega

end Go.Proofs.Ytmfolclpddoplaa

/- Plain facts: a graph under other names has as many edges. -/
namespace Go.Proofs.Ytmfolclpddoplaa
open Go.RowKit

theorem pick_graph {L : List (List Int)} {xs : List Int} (hG : GraphP L) (h1 : 1 ≤ xs.length) (h16 : xs.length ≤ 16) : GraphP (adjL xs.length (pickA L xs)) :=
  adjL_graph ⟨h1, h16⟩ (fun i j h => (pickA_range h).2) (pickA_sym hG xs) (pickA_self hG xs)
/-- The number of edges by who is near whom. -/
theorem many_adj {L : List (List Int)} (hG : GraphP L) : 2 * manyN L = ((sumTo (fun i => sumTo (fun j => if adjB L i j then 1 else 0) L.length) L.length : Nat) : Int) := by
  have hz := hG.1
  have h1 := bits_edges hG
  have h2 := sumTo_split (fun i => bitsTo (rowM L i) 16) L.length (16 - L.length) (fun i h1 _ => by
    have : rowM L i = 0 := by unfold rowM; exact if_neg (by omega)
    show bitsTo (rowM L i) 16 = 0
    rw [this, bitsTo_zero])
  rw [show L.length + (16 - L.length) = 16 from by omega] at h2
  rw [h2] at h1
  have h3 : sumTo (fun i => bitsTo (rowM L i) 16) L.length = sumTo (fun i => sumTo (fun j => if adjB L i j then 1 else 0) L.length) L.length := sumTo_congr (fun i hi => by
    rw [bitsTo_sum]
    have := sumTo_split (fun j => if (rowM L i).testBit j then 1 else 0) L.length (16 - L.length) (fun j hj _ => by
      have : (rowM L i).testBit j = false := by
        show adjB L i j = false
        cases hb : adjB L i j with
        | false => rfl
        | true => exact absurd (adjB_range hG hb).2 (by omega)
      rw [this]; rfl)
    rw [show L.length + (16 - L.length) = 16 from by omega] at this
    exact this)
  rw [h3] at h1
  have e1 : manyN L = ((edgesTo L L.length).length : Int) := by unfold manyN; rw [edgesL, if_pos hG]
  rw [e1, h1]
  omega

/-- A sum over a list of numbers. -/
def sumL (f : Int → Nat) (xs : List Int) : Nat := (xs.map f).sum
theorem sumL_perm {f : Int → Nat} {xs ys : List Int} (h : xs.Perm ys) : sumL f xs = sumL f ys := (h.map f).sum_nat
theorem sumL_to (f : Int → Nat) (xs : List Int) : sumL f xs = sumTo (fun i => f (nth xs i)) xs.length := by
  have key : ∀ k, k ≤ xs.length → sumL f (xs.take k) = sumTo (fun i => f (nth xs i)) k := by
    intro k
    induction k with
    | zero => intro _; simp [sumL, sumTo]
    | succ k ih =>
      intro hk
      rw [take_snoc (by omega)]
      simp only [sumTo, ← ih (by omega)]
      simp [sumL]
  have := key xs.length (Nat.le_refl _)
  rwa [List.take_length] at this
theorem ord_perm {xs : List Int} {n : Nat} (h : OrdP xs n) : xs.Perm (allL n) := by
  have hnd : xs.Nodup := by
    rw [List.nodup_iff_pairwise_ne, List.pairwise_iff_getElem]
    intro i j hi hj hij e
    have hh := (h.2 j hj).2
    have : hasB (xs.take j) (nth xs j) = true := (hasB_take (Nat.le_of_lt hj) _).2 ⟨i, hij, by rw [nth_eq hi, nth_eq hj]; exact e⟩
    rw [this] at hh
    cases hh
  have hnd2 : (allL n).Nodup := by
    rw [List.nodup_iff_pairwise_ne]
    exact (allL_pair n).imp (fun h => by omega)
  have hsub : ∀ z, z ∈ xs → z ∈ allL n := by
    intro z hz
    obtain ⟨i, hi, rfl⟩ := List.mem_iff_getElem.1 hz
    have := (h.2 i hi).1
    rw [nth_eq hi] at this
    have h2 : 0 ≤ xs[i] ∧ xs[i] ≤ (n : Int) - 1 := by simpa [inB] using this
    exact (allL_mem _ _).2 ⟨xs[i].toNat, by omega, by omega⟩
  rw [List.perm_ext_iff_of_nodup hnd hnd2]
  intro z
  refine ⟨hsub z, fun hz => ?_⟩
  rcases Classical.em (z ∈ xs) with h1 | h1
  · exact h1
  · exfalso
    have h3 : (z :: xs).Nodup := List.nodup_cons.2 ⟨h1, hnd⟩
    have h4 : (z :: xs) ⊆ allL n := by
      intro y hy
      rcases List.mem_cons.1 hy with rfl | hy
      · exact hz
      · exact hsub y hy
    have := h3.length_le_of_subset h4
    rw [List.length_cons, allL_len, h.1] at this
    omega
/-- Renaming by an order keeps the number of edges. -/
theorem renamed_many {L : List (List Int)} {xs : List Int} (hG : GraphP L) (h : OrdP xs L.length) : GraphP (adjL xs.length (pickA L xs)) ∧ manyN (adjL xs.length (pickA L xs)) = manyN L := by
  have hz := hG.1
  have hl := h.1
  have hG2 := pick_graph (xs := xs) hG (by omega) (by omega)
  refine ⟨hG2, ?_⟩
  have h1 := many_adj hG
  have h2 := many_adj hG2
  rw [adjL_len] at h2
  have e2 : sumTo (fun i => sumTo (fun j => if adjB (adjL xs.length (pickA L xs)) i j then 1 else 0) xs.length) xs.length = sumL (fun a => sumL (fun b => if adjB L a.toNat b.toNat then 1 else 0) xs) xs := by
    rw [sumL_to]
    refine sumTo_congr (fun i hi => ?_)
    rw [sumL_to]
    refine sumTo_congr (fun j hj => ?_)
    rw [adjB_adjL hG2 hi (by omega)]
    unfold pickA
    rw [decide_eq_true hi, decide_eq_true hj]
    rfl
  have hnth : ∀ i, i < L.length → nth (allL L.length) i = (i : Int) := fun i hi => by simp [nth, allL, hi]
  have e1 : sumTo (fun i => sumTo (fun j => if adjB L i j then 1 else 0) L.length) L.length = sumL (fun a => sumL (fun b => if adjB L a.toNat b.toNat then 1 else 0) (allL L.length)) (allL L.length) := by
    rw [sumL_to, allL_len]
    refine sumTo_congr (fun i hi => ?_)
    rw [sumL_to, allL_len]
    refine sumTo_congr (fun j hj => ?_)
    rw [hnth i hi, hnth j hj, Int.toNat_natCast, Int.toNat_natCast]
  have hp := ord_perm h
  have e3 : sumL (fun a => sumL (fun b => if adjB L a.toNat b.toNat then 1 else 0) xs) xs = sumL (fun a => sumL (fun b => if adjB L a.toNat b.toNat then 1 else 0) (allL L.length)) (allL L.length) := by
    rw [sumL_perm hp]
    unfold sumL
    congr 1
    refine List.map_congr_left (fun a _ => ?_)
    exact sumL_perm hp
  rw [e2, e3, ← e1] at h2
  omega

end Go.Proofs.Ytmfolclpddoplaa
