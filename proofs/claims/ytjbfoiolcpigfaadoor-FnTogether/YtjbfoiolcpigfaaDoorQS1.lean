/- The texts S1, S2, S3, joined. -/
import Derived.Test.YtjbfoiolcpigfaaDoorQJ3
import Derived.Test.YtjbfoiolcpigfaaDoorQM7
import Derived.Test.YtjbfoiolcpigfaaDoorQH0
import Derived.Test.YtjbfoiolcpigfaaDoorQJ8

/- Walks: the laws' dice. -/
namespace Go.Proofs.YtjbfoiolcpigfaaDoor
open Go.RowKit

theorem and24_u64 (x : Int) : 0 ≤ bits BinOp.and IntKind.u64 x 16777215 ∧ bits BinOp.and IntKind.u64 x 16777215 ≤ 16777215 := by
  have e : bits BinOp.and IntKind.u64 x 16777215 = IntKind.u64.wrap ((BitVec.ofInt 64 x &&& BitVec.ofInt 64 16777215).toNat : Int) := rfl
  rw [e, BitVec.toNat_and]
  have h1 : (BitVec.ofInt 64 16777215).toNat = 16777215 := by decide
  have h2 : (BitVec.ofInt 64 x).toNat &&& 16777215 ≤ 16777215 := Nat.and_le_right
  rw [h1]
  simp only [IntKind.wrap, IntKind.signed, IntKind.bits]
  generalize (BitVec.ofInt 64 x).toNat &&& 16777215 = y at h2
  simp
  omega

/-- Block d holds dice over the n bytes of bv. -/
def DiceAt (w : World) (d : Nat) (bv : Value) (n : Nat) : Prop := ∃ (i : Nat) (h : Int), i ≤ n ∧ w.heap[d]? = some (.cells #[bv, .int .i64 (i : Int), .int .u64 h] 66 (0, 0))
theorem DiceAt.keepB {w w' : World} {c n B : Nat} {bv : Value} (h : DiceAt w c bv n) (hb : Below B w w') (hB : c < B) : DiceAt w' c bv n := by
  obtain ⟨i, k, hi, hh⟩ := h
  exact ⟨i, k, hi, by rw [hb.block c hB]; exact hh⟩
theorem DiceAt.lt {w : World} {c n : Nat} {bv : Value} (h : DiceAt w c bv n) : c < w.heap.size := by
  obtain ⟨i, k, hi, hh⟩ := h
  exact (Array.getElem?_eq_some_iff.1 hh).1
theorem DiceAt.keep {w w' : World} {c n : Nat} {bv : Value} (h : DiceAt w c bv n) (hb : Below w.heap.size w w') : DiceAt w' c bv n := h.keepB hb h.lt
/-- A number has been rolled: it fulfils p; only the dice have turned. -/
def Rolled (w : World) (d : Nat) (bv : Value) (n : Nat) (p : Int → Prop) (e : Ending) (w' : World) : Prop :=
  ∃ x : Int, e = .returned (.int .i64 x) ∧ p x ∧ DiceAt w' d bv n ∧ OnlyBlk d w w'
theorem dice_set2 {w : World} {c : Nat} {bv : Value} {i h : Int} {T : TypeId} (hh : w.heap[c]? = some (.cells #[bv, .int .i64 i, .int .u64 h] T (0, 0))) (h' : Int) : (w.setCell ⟨c, 2, none⟩ (.int .u64 h')).heap[c]? = some (.cells #[bv, .int .i64 i, .int .u64 h'] T (0, 0)) := heap_setCell_same w c 2 _ _ _ hh
theorem dice_set1 {w : World} {c : Nat} {bv : Value} {i h : Int} {T : TypeId} (hh : w.heap[c]? = some (.cells #[bv, .int .i64 i, .int .u64 h] T (0, 0))) (i' : Int) : (w.setCell ⟨c, 1, none⟩ (.int .i64 i')).heap[c]? = some (.cells #[bv, .int .i64 i', .int .u64 h] T (0, 0)) := heap_setCell_same w c 1 _ _ _ hh

theorem roll_small {y : Int} (h : 0 ≤ y ∧ y ≤ 16777215) : 0 ≤ wrap64 y := by
  unfold wrap64
  omega
theorem roll_small2 {y : Int} {x : Nat} (h : 0 ≤ y ∧ y ≤ 16777215) (hx : x < 256) : 0 ≤ wrap64 (wrap64 y + (x : Int)) := by
  unfold wrap64
  omega

set_option maxHeartbeats 1600000 in
set_option maxRecDepth 100000 in
theorem below_any (c n : Nat) (bv : Value) (m : Int) (w : World) (hc : DiceAt w c bv n) (hb : BytesAt w c bv n) (hm : 1 ≤ m) (hm2 : I64 m) : Calls Tryd.prog 32 #[.pointer (some ⟨c, 0, none⟩), .int .i64 m] w (Rolled w c bv n (InBelow m)) := by
  obtain ⟨i, h, hi, hh⟩ := hc
  obtain ⟨hn, a, cap, rfl, hbs⟩ := hb
  have k0 : w.cell? ⟨c, 0, none⟩ = some (.slice a n cap) := by rw [cell_of_row w c 0 _ _ _ hh]; rfl
  have k1 : w.cell? ⟨c, 1, none⟩ = some (.int .i64 (i : Int)) := by rw [cell_of_row w c 1 _ _ _ hh]; rfl
  have k2 : w.cell? ⟨c, 2, none⟩ = some (.int .u64 h) := by rw [cell_of_row w c 2 _ _ _ hh]; rfl
  have f1 : w.frozen? ⟨c, 1, none⟩ = false := frozen_of_row w c 1 _ _ hh
  have f2 : w.frozen? ⟨c, 2, none⟩ = false := frozen_of_row w c 2 _ _ hh
  have HH := Lib.hid hh
  have HBS := Lib.hid hbs
  have hm0 : (m == 0) = false := by rw [beq_eq_false_iff_ne]; omega
  unfold I64 at hm2
  clear hh hbs
  by_cases hlt : i < n
  · have hd : decide ((i : Int) < (n : Int)) = true := by simp; omega
    obtain ⟨b, o, rfl, hbc, hcs⟩ := HBS.out (by omega)
    obtain ⟨x, hx, hcx⟩ := hcs i hlt
    have hne : b ≠ c := by omega
    clear hcs
    go_enter Tryd.func32, Tryd.ntmps32
    go_wp2
    go_quiet (fail)
    go_wp2
    go_quiet (fail)
    go_wp2
    go_ret
    have ho := ((OnlyBlk.refl c w).setCell 2 (.int .u64 (IntKind.u64.wrap (IntKind.u64.wrap (h * 6364136223846793005) + 1442695040888963407)))).setCell 1 (.int .i64 ((i + 1 : Nat) : Int))
    exact ⟨_, rfl, inBelow_rem (roll_small2 (and24_u64 _) hx) (by omega), ⟨i + 1, _, hlt, dice_set1 (dice_set2 HH.out (IntKind.u64.wrap (IntKind.u64.wrap (h * 6364136223846793005) + 1442695040888963407))) _⟩, ⟨ho.os, ho.tape, ho.output, ho.size, ho.other⟩⟩
  · have hd : decide ((i : Int) < (n : Int)) = false := by simp; omega
    go_enter Tryd.func32, Tryd.ntmps32
    go_wp2
    go_quiet (fail)
    go_wp2
    go_ret
    exact ⟨_, rfl, inBelow_rem (roll_small (and24_u64 _)) (by omega), ⟨i, _, hi, dice_set2 HH.out _⟩, ((OnlyBlk.refl c w).setCell 2 _).drewN _⟩

end Go.Proofs.YtjbfoiolcpigfaaDoor

/- Walks: dice made of a code; a set and a graph rolled. -/
namespace Go.Proofs.YtjbfoiolcpigfaaDoor
open Go.RowKit

set_option maxHeartbeats 1600000 in
set_option maxRecDepth 100000 in
theorem roll_any (bv : Value) (n : Nat) (s : Int) (w : World) (hb : BytesAt w w.heap.size bv n) : Calls Tryd.prog 16 #[bv, .int .u64 s] w (fun e w' => e = .returned (.pointer (some ⟨w.heap.size, 0, none⟩)) ∧ DiceAt w' w.heap.size bv n ∧ Below w.heap.size w w') := by
  obtain ⟨hn, a, cap, rfl, hbs⟩ := hb
  have HBS := Lib.hid hbs
  clear hbs
  go_enter Tryd.func16, Tryd.ntmps16
  go_wp2_with fail
  go_loopw [6] (fun i wr => ∃ k : Nat, k ≤ n ∧ i = .int .i64 k ∧ (∃ h : Int, wr.heap[w.heap.size]? = some (.cells #[.slice a n cap, .int .i64 0, .int .u64 h] 66 (0, 0))) ∧ Below w.heap.size w wr) (fun i _ => n - (intOf i).toNat)
  case atStart => exact ⟨0, Nat.zero_le _, rfl, ⟨_, heap_alloc_new _ _⟩, (Below.refl _ _).alloc (Nat.le_refl _) _⟩
  case round =>
    obtain ⟨k, hk, rfl, ⟨h, hh⟩, hb⟩ := hrel
    have HH := Lib.hid hh
    have HB := Lib.hid hb
    have k2 : wr.cell? ⟨w.heap.size, 2, none⟩ = some (.int .u64 h) := by rw [cell_of_row wr w.heap.size 2 _ _ _ hh]; rfl
    have f2 : wr.frozen? ⟨w.heap.size, 2, none⟩ = false := frozen_of_row wr w.heap.size 2 _ _ hh
    clear hh
    by_cases hlt : k < n
    · obtain ⟨b, o, rfl, hbc, hcs⟩ := HBS.out (by omega)
      obtain ⟨x, hx, hcx⟩ := hcs k hlt
      have hck := cell_keep hb hcx
      have hne : b ≠ w.heap.size := by omega
      clear hcs hb hcx
      go_wp2_with fail
      go_region
      all_goals (
        go_wp2
        go_roundw
        case rel => exact ⟨k + 1, by omega, by go_num, ⟨_, dice_set2 HH.out _⟩, (HB.out.setCell (Nat.le_refl _) _).drew⟩
        case measure => simp [intOf]; omega)
    · obtain rfl : k = n := by omega
      clear hb
      go_wp2
      go_ret
      exact ⟨rfl, ⟨0, h, Nat.zero_le _, HH.out⟩, HB.out⟩

/-- A row has been rolled: strictly increasing numbers below m; beside new memory only the dice have turned. -/
def RolledSet (w : World) (d : Nat) (bv : Value) (n m : Nat) (e : Ending) (w' : World) : Prop :=
  ∃ xs a k c, e = .returned (.slice a k c) ∧ SetP xs m ∧ OwnRow 2 w' w.heap.size (.slice a k c) xs ∧ DiceAt w' d bv n ∧ Touched d (d + 1) w w'

theorem SetP.snoc {xs : List Int} {m : Nat} (h : SetP xs m) : SetP (xs ++ [(m : Int)]) ((m + 1 : Nat) : Int) := by
  refine SetP.mk ?_ ?_
  · rw [List.pairwise_append]
    refine ⟨h.pairwise, by simp, fun a ha b hb => ?_⟩
    simp at hb
    have := h.bounds a ha
    omega
  · intro x hx
    rcases List.mem_append.1 hx with hx | hx
    · have := h.bounds x hx; omega
    · simp at hx; omega
theorem SetP.wider {xs : List Int} {m : Nat} (h : SetP xs m) : SetP xs ((m + 1 : Nat) : Int) := SetP.mk h.pairwise (fun x hx => by have := h.bounds x hx; omega)

end Go.Proofs.YtjbfoiolcpigfaaDoor

/- Walks: a graph rolled. -/
namespace Go.Proofs.YtjbfoiolcpigfaaDoor
open Go.RowKit

theorem own_gempty {T T1 : TypeId} (w : World) : OwnGrid T T1 (w.alloc (.cells #[] T1)) w.heap.size (.slice (some ⟨w.heap.size, 0, none⟩) 0 0) [] :=
  ⟨fun _ => .slice none 0 0, by simp, Or.inr ⟨w.heap.size, 0, #[], rfl, Nat.le_refl _, heap_alloc_new _ _, Nat.le_refl _, by simp, rfl, fun i hi => absurd hi (by simp)⟩, fun i hi => absurd hi (by simp), fun i j k _ hj => absurd hj (by simp)⟩

/-- A graph has been rolled: a right one, of at most so many vertices; beside new memory only the dice have turned. -/
def RolledGraph (w : World) (d : Nat) (bv : Value) (n most : Nat) (e : Ending) (w' : World) : Prop :=
  ∃ L m a c, e = .returned (.agg #[.slice a m c]) ∧ GraphP L ∧ L.length ≤ most ∧ OwnGrid 2 36 w' w.heap.size (.slice a m c) L ∧ DiceAt w' d bv n ∧ Touched d (d + 1) w w'

theorem of_right {n : Nat} {E : List (List Int)} (h : OfP (n : Int) E) : GraphP (ofL (n : Int) E) := by
  have hn : 1 ≤ n ∧ n ≤ 16 := by have := h.1; simp [inB] at this; omega
  rw [ofL, if_pos h, Int.toNat_natCast]
  have e : maskL n (edgeM E E.length) = adjL n (fun i j => (edgeM E E.length i).testBit j) := by
    apply nthR_ext
    · rw [maskL_len, adjL_len]
    · intro i hi
      rw [maskL_len] at hi
      rw [maskL_nth _ hi, adjL_nth _ hi, pm_of (edgeM_lt (n := (n : Int)) (by omega) _ h.2.2 i)]
  rw [e]
  have hbit := edgeM_bit (n := (n : Int)) (by omega) E.length h.2.2
  refine adjL_graph hn ?_ ?_ ?_
  · intro i j hb
    obtain ⟨q, hq, hh⟩ := (hbit i j).1 hb
    obtain ⟨_, h1, h2, h3⟩ := h.2.2 q hq
    omega
  · intro i j
    rw [Bool.eq_iff_iff, hbit i j, hbit j i]
    constructor
    · rintro ⟨q, hq, hh⟩; exact ⟨q, hq, hh.symm⟩
    · rintro ⟨q, hq, hh⟩; exact ⟨q, hq, hh.symm⟩
  · intro i
    cases hb : (edgeM E E.length i).testBit i with
    | false => rfl
    | true =>
      obtain ⟨q, hq, hh⟩ := (hbit i i).1 hb
      obtain ⟨_, h1, h2, h3⟩ := h.2.2 q hq
      omega
theorem of_len {n : Nat} {E : List (List Int)} (h : OfP (n : Int) E) : (ofL (n : Int) E).length = n := by rw [ofL, if_pos h, Int.toNat_natCast, maskL_len]

set_option maxHeartbeats 3200000 in
set_option maxRecDepth 100000 in
theorem w5Graph_any (d n most : Nat) (bv : Value) (w : World) (hd : DiceAt w d bv n) (hb : BytesAt w d bv n) (hm1 : 1 ≤ most) (hm : most ≤ 8) : Calls Tryd.prog 17 #[.pointer (some ⟨d, 0, none⟩), .int .i64 (most : Int)] w (RolledGraph w d bv n most) := by
  obtain ⟨i0, hi, hz0, hz1, hz2⟩ := info_parts Tryd.infoR
  have hdl := hd.lt
  have hbA : Below w.heap.size w (w.alloc (.cells #[.slice none 0 0] 29)) := (Below.refl _ _).alloc (Nat.le_refl _) _
  have HD0 := Lib.hid (hd.keep hbA)
  have BX0 := Lib.hid (BoxAt.new w (.slice none 0 0) 29)
  have HT0 : Hid (Touched d (d + 1) w (w.alloc (.cells #[.slice none 0 0] 29))) := Touched.ofBelow hbA
  have HBY := Lib.hid hb
  clear hd hb hbA
  go_enter Tryd.func17, Tryd.ntmps17
  go_wp2_with fail
  refine (below_any d n bv (most : Int) _ HD0.out (HT0.out.bytes HBY.out (Nat.le_of_lt hdl)) (by omega) (by unfold I64; omega)).mono ?_
  rintro e w1 ⟨x1, rfl, hx1, hd1, ho1⟩
  obtain ⟨m0, rfl⟩ : ∃ m0 : Nat, x1 = (m0 : Int) := ⟨x1.toNat, by have := (hx1.2 (by omega)).1; omega⟩
  have hm0 : m0 < most := by have := (hx1.2 (by omega)).2; omega
  have HD1 := Lib.hid hd1
  have HT1 := Lib.hid (HT0.out.only ho1)
  have BX1 := Lib.hid (BX0.out.only ho1 (by omega))
  clear hx1 hd1 ho1 HD0 HT0 BX0
  go_wp2_with fail
  refine (below_any d n bv 3 _ HD1.out (HT1.out.bytes HBY.out (Nat.le_of_lt hdl)) (by omega) (by unfold I64; omega)).mono ?_
  rintro e w2 ⟨x2, rfl, hx2, hd2, ho2⟩
  have hx20 := hx2.2 (by omega)
  obtain ⟨hx20, hx21⟩ := hx20
  have HD2 := Lib.hid hd2
  have HT2 := Lib.hid (HT1.out.only ho2)
  have BX2 := Lib.hid (BX1.out.only ho2 (by omega))
  have hz2' : w.heap.size < w2.heap.size := BX2.out.lt
  have hbE : Below w2.heap.size w2 (w2.alloc (.cells #[] 36)) := (Below.refl _ _).alloc (Nat.le_refl _) _
  have HD3 := Lib.hid (HD2.out.keep hbE)
  have HT3 := Lib.hid (HT2.out.under hbE (Nat.le_of_lt hz2'))
  have BX3 := Lib.hid (BX2.out.keep hbE)
  have HOE := Lib.hid (own_gempty (T := 2) (T1 := 36) w2)
  clear hx2 hd2 ho2 HD1 HT1 BX1 HD2 HT2 BX2 hbE
  obtain ⟨m, hme⟩ : ∃ m, m = m0 + 1 := ⟨_, rfl⟩
  have hmI : (1 : Int) + (m0 : Int) = (m : Int) := by omega
  have hmm : m ≤ most := by omega
  have hm1' : 1 ≤ m := by omega
  clear hme hm0
  go_wp2_with fail
  clear hmI
  go_loopw [7, 8] (fun s i wr => ∃ k : Nat, 1 ≤ k ∧ k ≤ m ∧ i = .int .i64 k ∧ (∃ E, (∀ q, q < E.length → EdgeP (nthR E q) (m : Int)) ∧ E.length ≤ 8 * k ∧ OwnGrid 2 36 wr (w.heap.size + 1) s E) ∧ BoxAt wr w.heap.size (.slice none 0 0) ∧ DiceAt wr d bv n ∧ Touched d (d + 1) w wr) (fun _ i _ => m - (intOf i).toNat)
  case atStart => exact ⟨1, Nat.le_refl _, by omega, rfl, ⟨[], fun q hq => absurd hq (by simp), by simp, HOE.out.mono (by omega)⟩, BX3.out, HD3.out, HT3.out⟩
  case round =>
    obtain ⟨k, hk1, hk, rfl, ⟨E, hE, hEl, ho⟩, hbx, hdi, ht⟩ := hrel
    have HE := Lib.hid hE
    have HO := Lib.hid ho
    have HBX := Lib.hid hbx
    have HDI := Lib.hid hdi
    have HT := Lib.hid ht
    clear hE ho hbx hdi ht
    by_cases hlt : k < m
    · go_wp2_with fail
      go_loopw [7, 9] (fun s i wr => ∃ q : Nat, q ≤ k ∧ i = .int .i64 q ∧ (∃ E, (∀ q, q < E.length → EdgeP (nthR E q) (m : Int)) ∧ E.length ≤ 8 * k + q ∧ OwnGrid 2 36 wr (w.heap.size + 1) s E) ∧ BoxAt wr w.heap.size (.slice none 0 0) ∧ DiceAt wr d bv n ∧ Touched d (d + 1) w wr) (fun _ i _ => k - (intOf i).toNat)
      case atStart => exact ⟨0, Nat.zero_le _, rfl, ⟨E, HE.out, hEl, HO.out⟩, HBX.out, HDI.out, HT.out⟩
      case round =>
        rename World => w4
        obtain ⟨q, hq, rfl, ⟨F, hF, hFl, ho⟩, hbx, hdi, ht⟩ := hrel
        have HF := Lib.hid hF
        have HO4 := Lib.hid ho
        have HBX4 := Lib.hid hbx
        have HDI4 := Lib.hid hdi
        have HT4 := Lib.hid ht
        clear hF ho hbx hdi ht
        by_cases hql : q < k
        · go_wp2_with fail
          refine (below_any d n bv 4 _ HDI4.out (HT4.out.bytes HBY.out (Nat.le_of_lt hdl)) (by omega) (by unfold I64; omega)).mono ?_
          rintro e w5 ⟨x5, rfl, hx5, hd5, ho5⟩
          have HD5 := Lib.hid hd5
          have HT5 := Lib.hid (HT4.out.only ho5)
          have BX5 := Lib.hid (HBX4.out.only ho5 (by omega))
          have HO5 := Lib.hid (HO4.out.touched (ho5.touched (Nat.le_refl _) (Nat.lt_succ_self _)) (by omega))
          have hz5 : w.heap.size < w5.heap.size := BX5.out.lt
          clear hx5 hd5 ho5
          by_cases hlx : x5 < 1 + x2
          · have hdx : decide (x5 < 1 + x2) = true := by simpa using hlx
            obtain ⟨R, hR, hRr, hRd⟩ := HO5.out.owns
            have HR := Lib.hid hR
            have HRr := Lib.hid hRr
            have HRd := Lib.hid hRd
            have hbw : Below w5.heap.size w5 ((w5.alloc (.cells #[.int .i64 (q : Int), .int .i64 (k : Int)] 2)).alloc (.cells #[.slice (some ⟨w5.heap.size, 0, none⟩) 2 2] 36)) := ((Below.refl _ _).alloc (Nat.le_refl _) _).alloc (by simp) _
            have HBW := Lib.hid hbw
            clear hR hRr hRd hlx hbw
            go_wp2_with (at_builtin; refine wpList_append_own _ rfl (.tmp 34) (.tmp 38) 27 rfl (w.heap.size + 1) 36 i0 (.slice none 0 0) 1 24 Tryd.underlying27 hi hz0 hz1 hz2 rfl (by decide) _ _ _ rfl ((HR.out.alloc _).alloc _) ⟨w5.heap.size + 1, 0, none⟩ 1 1 [.slice (some ⟨w5.heap.size, 0, none⟩) 2 2] rfl rfl ?c1 ?c2 ?c3 ?c4 ?c5 ?_)
            case c1 =>
              intro j u hj
              match j, hj with
              | 0, hj => simp at hj; subst hj; simp [Addr.add]
            case c2 => intro u hu; simp at hu; subst hu; rfl
            case c3 => unfold maxLen; omega
            case c4 => omega
            case c5 => simp; omega
            intro v' w6 hown' hgrow _
            have hog6 : OwnGrid 2 36 w6 (w.heap.size + 1) v' (F ++ [[(q : Int), (k : Int)]]) := by
              refine OwnGrid.snoc (w0 := w5) (w := (w5.alloc (.cells #[.int .i64 (q : Int), .int .i64 (k : Int)] 2)).alloc (.cells #[.slice (some ⟨w5.heap.size, 0, none⟩) 2 2] 36)) (rv := .slice (some ⟨w5.heap.size, 0, none⟩) 2 2) (by decide) HBW.out (by omega) ?_ rfl (by unfold maxLen; omega) R HR.out HRr.out HRd.out hown' hgrow
              exact (own_two (by unfold I64; omega) (by unfold I64; omega)).keep ((Below.refl _ _).alloc (Nat.le_refl _) _)
            have hb6 : Below (w.heap.size + 1) w5 w6 := (HBW.out.mono (by omega)).grown hgrow (by simp; omega) (fun j hj => (HR.out.lt j hj).1)
            have HO6 := Lib.hid hog6
            have HD6 := Lib.hid (HD5.out.keepB hb6 (by omega))
            have HT6 := Lib.hid (HT5.out.under hb6 (by omega))
            have BX6 := Lib.hid (BX5.out.keepB hb6 (by omega))
            clear hown' hgrow hog6 hb6
            go_wp2
            go_roundw
            case rel =>
              refine ⟨q + 1, by omega, by go_num, ⟨F ++ [[(q : Int), (k : Int)]], fun p hp => ?_, by rw [List.length_append, List.length_singleton]; omega, HO6.out⟩, BX6.out, HD6.out, HT6.out⟩
              rw [List.length_append, List.length_singleton] at hp
              by_cases hp2 : p < F.length
              · rw [nthR_append_old hp2]; exact HF.out p hp2
              · obtain rfl : p = F.length := by omega
                rw [nthR_append_last]
                exact ⟨rfl, by show (0 : Int) ≤ (q : Int); omega, by show (q : Int) < (k : Int); omega, by show (k : Int) < (m : Int); omega⟩
            case measure => simp [intOf]; omega
          · have hdx : decide (x5 < 1 + x2) = false := by simpa using hlx
            clear hlx
            go_wp2
            go_roundw
            case rel => exact ⟨q + 1, by omega, by go_num, ⟨F, HF.out, by omega, HO5.out⟩, BX5.out, HD5.out, HT5.out⟩
            case measure => simp [intOf]; omega
        · obtain rfl : q = k := by omega
          go_wp2
          go_roundw
          case rel => exact ⟨q + 1, by omega, by omega, by go_num, ⟨F, HF.out, by omega, HO4.out⟩, HBX4.out, HDI4.out, HT4.out⟩
          case measure => simp [intOf]; omega
    · obtain rfl : k = m := by omega
      have hof : OfP (k : Int) E := ⟨by simp [inB]; omega, by omega, HE.out⟩
      have HOF := Lib.hid hof
      obtain ⟨aE, cE, eE⟩ := HO.out.grid.slice
      rw [eE]
      have HGE : Hid (GridAt wr (.slice aE E.length cE) E) := by have := HO.out.grid; rw [eE] at this; exact this
      clear hof eE
      go_wp2_with fail
      refine (specGraphOf_any _ (k : Int) E _ HGE.out).mono ?_
      rintro e w7 ⟨n7, a7, c7, rfl, ho7, hb7⟩
      rw [decide_eq_true HOF.out]
      have HD7 := Lib.hid (HDI.out.keep hb7)
      have hzr : w.heap.size < wr.heap.size := HBX.out.lt
      have HT7 := Lib.hid (HT.out.under hb7 (Nat.le_of_lt hzr))
      have BX7 := Lib.hid (HBX.out.keep hb7)
      have hbq : Below w7.heap.size w7 (w7.alloc (.cells #[.slice a7 n7 c7] 29)) := (Below.refl _ _).alloc (Nat.le_refl _) _
      have HO8 := Lib.hid (ho7.keep hbq)
      have HD8 := Lib.hid (HD7.out.keep hbq)
      have BX8 := Lib.hid (BX7.out.keep hbq)
      have hz7 : w.heap.size ≤ w7.heap.size := Nat.le_trans (Nat.le_of_lt hzr) hb7.size
      have HT8 := Lib.hid (HT7.out.under hbq hz7)
      have kr := BX8.out.1
      have kf := BX8.out.2
      clear ho7 hb7 hbq
      go_wp2
      have q0 : ((w7.alloc (.cells #[.slice a7 n7 c7] 29)).setCell ⟨w.heap.size, 0, none⟩ (.slice a7 n7 c7)).cell? ⟨w.heap.size, 0, none⟩ = some (.slice a7 n7 c7) := cell_set_same _ BX8.out.1
      refine bodyPost_ret (v := .agg #[.slice a7 n7 c7]) (by simp [results, Tryd.results17, go_sem, q0]) rfl ⟨ofL (k : Int) E, n7, a7, c7, rfl, of_right HOF.out, by rw [of_len HOF.out]; omega, ?_, ?_, ?_⟩
      · exact (HO8.out.setBelow (by simp; omega) _).mono (by omega)
      · exact HD8.out.keepB ((Below.refl w.heap.size _).setCell (Nat.le_refl _) _) hdl
      · exact HT8.out.under ((Below.refl w.heap.size _).setCell (Nat.le_refl _) _) (Nat.le_refl _)

end Go.Proofs.YtjbfoiolcpigfaaDoor
