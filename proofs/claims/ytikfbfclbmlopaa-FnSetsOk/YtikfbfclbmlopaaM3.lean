/- Walks: the program's complement. -/
import Derived.Test.YtikfbfclbmlopaaM2
import Derived.Deep.RegionLaw
import Derived.StillTailTactics
namespace Go.Proofs.Ytikfbfclbmlopaa
open Go.RowKit

/-- A mask without the bits of K. -/
def clrM (M K : Nat) : Nat := M &&& (4294967295 - K)
theorem clrM_bit {M K : Nat} (hM : M < 65536) (hK : K < 65536) (j : Nat) : (clrM M K).testBit j = (M.testBit j && !K.testBit j) := by
  unfold clrM
  rw [Nat.testBit_and]
  have e : 4294967295 - K = 2 ^ 32 - (K + 1) := by omega
  rw [e, Nat.testBit_two_pow_sub_succ (by omega)]
  by_cases hj : j < 32
  · simp [hj]
  · have : M.testBit j = false := Nat.testBit_lt_two_pow (Nat.lt_of_lt_of_le hM (Nat.pow_le_pow_right (n := 2) (by omega) (by omega : 16 ≤ j)))
    simp [this]
theorem clrM_lt {M : Nat} (K : Nat) (hM : M < 65536) : clrM M K < 65536 := Nat.lt_of_le_of_lt Nat.and_le_left hM

/-- All of n vertices. -/
theorem whole_lt {n : Nat} (hn : n ≤ 16) : 2 ^ n - 1 < 65536 := by
  have : 2 ^ n ≤ 2 ^ 16 := Nat.pow_le_pow_right (by omega) hn
  omega
theorem whole_bit (n j : Nat) : (2 ^ n - 1).testBit j = decide (j < n) := by
  rw [Nat.testBit_two_pow_sub_one]

set_option maxHeartbeats 400000 in
theorem wholeMask_any (n : Nat) (w : World) (hn : n ≤ 16) : Calls Try.prog 97 #[.int .i64 (n : Int)] w fun e w' => e = .returned (.int .u32 ((2 ^ n - 1 : Nat) : Int)) ∧ w = w' := by
  have h1 : 1 ≤ 2 ^ n := Nat.one_le_two_pow
  have h2 : 2 ^ n ≤ 65536 := Nat.pow_le_pow_right (n := 2) (by omega) hn
  have HE : Hid (IntKind.u32.wrap ((2 : Int) ^ n % 4294967296 - 1) = ((2 ^ n - 1 : Nat) : Int)) := by
    show IntKind.u32.wrap _ = _
    have e1 : ((2 : Int) ^ n) = ((2 ^ n : Nat) : Int) := by simp
    rw [e1]
    generalize 2 ^ n = q at h1 h2
    have e2 : ((q : Int) % 4294967296 - 1) = ((q - 1 : Nat) : Int) := by omega
    rw [e2]
    simp [IntKind.wrap, IntKind.signed, IntKind.bits]
    omega
  clear h1 h2
  go_enter Try.func97, Try.ntmps97
  go_wp2
  go_ret
  exact ⟨ret_int HE.out, rfl⟩

theorem bit_clr (M k : Nat) (hM : M < 65536) (hk : k < 16) : bits BinOp.andNot IntKind.u32 (M : Int) (2 ^ k % 4294967296) = ((clrM M (2 ^ k) : Nat) : Int) := by
  have h2 := pow_lt16 hk
  have h1 : ((2 : Int) ^ k % 4294967296) = ((2 ^ k : Nat) : Int) := by
    have : ((2 : Int) ^ k) = ((2 ^ k : Nat) : Int) := by simp
    rw [this]
    generalize 2 ^ k = q at h2
    omega
  rw [h1, u32_andNot_nat _ _ (by omega) (by omega)]
  rfl

set_option maxHeartbeats 400000 in
theorem cut_any (b o M : Nat) (v : Int) (w : World) (hc : w.cell? ⟨b, o, none⟩ = some (.int .u32 M)) (hf : w.frozen? ⟨b, o, none⟩ = false) (hM : M < 65536) (h1 : 0 ≤ v) (h2 : v < 16) :
    Calls Try.prog 98 #[.pointer (some ⟨b, o, none⟩), .int .i64 v] w fun e w' => e = .returned (.tuple #[]) ∧ Drawn (w.setCell ⟨b, o, none⟩ (.int .u32 ((clrM M (2 ^ v.toNat) : Nat) : Int))) w' := by
  have e : decide (0 ≤ v ∧ v < 16) = true := by simp [h1, h2]
  have HE := Lib.hid e
  clear e
  go_enter Try.func98, Try.ntmps98
  go_wp2_with fail
  refine (isVertex_any _ _ _).mono ?_
  rintro e w' ⟨rfl, rfl⟩
  rw [HE.out]
  go_wp2
  go_region
  go_end0
  exact ⟨rfl, by rw [bit_clr M _ hM (by omega)]; exact (Drawn.refl _).drew⟩

theorem comp_mask {L : List (List Int)} (hG : GraphP L) {k : Nat} (hk : k < L.length) : clrM (clrM (2 ^ L.length - 1) (rowM L k)) (2 ^ k) = pm (compA L k) := by
  have hz := hG.1
  have hw := whole_lt (n := L.length) (by omega)
  have hr := rowM_lt (L := L) (by omega) (fun v hv => (hG.2.1 v hv).1) k
  apply Nat.eq_of_testBit_eq
  intro j
  rw [clrM_bit (clrM_lt _ hw) (pow_lt16 (by omega)), clrM_bit hw hr, whole_bit, Nat.testBit_two_pow, pm_bit]
  unfold compA adjB
  rw [decide_eq_true hk]
  by_cases hj : j < L.length
  · have h16 : j < 16 := by omega
    have e : (k != j) = !decide (k = j) := by by_cases e : k = j <;> simp [e]
    rw [e]
    simp only [hj, h16, decide_true, Bool.true_and]
    cases (rowM L k).testBit j <;> cases decide (k = j) <;> rfl
  · simp [hj]

theorem compL_small (L : List (List Int)) : Small (compL L) := by
  unfold compL
  split
  · rename_i hG
    exact adjL_small _ _ (by have := hG.1; omega)
  · exact ⟨by simp, fun i hi => absurd hi (by simp)⟩

/-- The masks when the first k are turned. -/
def compTo (L : List (List Int)) (k i : Nat) : Nat := if i < k then pm (compA L i) else rowM L i

set_option maxHeartbeats 1600000 in
theorem implComplement_any (v : Value) (L : List (List Int)) (w : World) (h : GridAt w v L) : Calls Try.prog 42 #[.agg #[v]] w (GaveGB w (compL L) (decide (GraphP L))) := by
  obtain ⟨a0, c0, rfl⟩ := h.slice
  have b2 : BoxAt ((w.alloc (.cells #[.slice a0 L.length c0] 26)).alloc (.cells #[.slice none 0 0] 26)) (w.heap.size + 1) (.slice none 0 0) := ⟨by go_simp, by go_simp⟩
  have ha : Below w.heap.size w ((w.alloc (.cells #[.slice a0 L.length c0] 26)).alloc (.cells #[.slice none 0 0] 26)) := ((Below.refl _ _).alloc (Nat.le_refl _) _).alloc (by simp) _
  have hsz : ((w.alloc (.cells #[.slice a0 L.length c0] 26)).alloc (.cells #[.slice none 0 0] 26)).heap.size = w.heap.size + 1 + 1 := by rw [size_alloc1, size_alloc1]
  have hk := h.keep ha
  have B2 := Lib.hid b2
  have HA := Lib.hid ha
  have HSZ := Lib.hid hsz
  clear b2 ha hsz h
  go_enter Try.func42, Try.ntmps42
  go_wp2_with fail
  refine (netOf_any _ _ _ hk).mono ?_
  rintro e w1 ⟨rfl, hb1⟩
  have HB1 : Hid (Below w.heap.size w w1) := HA.out.trans (hb1.mono (by rw [HSZ.out]; omega))
  have BX1 := Lib.hid (B2.out.keep hb1)
  have hz1 : w.heap.size + 1 + 1 ≤ w1.heap.size := by have := hb1.size; rw [HSZ.out] at this; exact this
  have hnb := netBlk_new w1 0 (fun _ => 0)
  clear hb1 hk B2 HA
  by_cases hG : GraphP L
  · have hzn := hG.1
    have HG := Lib.hid hG
    rw [decide_eq_true hG, netArr_yes hG]
    clear hG
    go_wp2_with (refine wpList_store_net rfl 71 (.tmp 4) (.tmp 10) rfl w1.heap.size L.length (rowM L) rfl rfl Try.sizeNet 0 (fun _ => 0) hnb ?_; intro w3 hp; have hn0 := hp.net.at.1; have HN3 := Lib.hid hp.net; have HB3 : Hid (Below w.heap.size w w3) := (HB1.out.alloc HB1.out.size _).trans (hp.below.mono HB1.out.size); have BX3 : Hid (BoxAt w3 (w.heap.size + 1) (.slice none 0 0)) := (BX1.out.keep ((Below.refl _ _).alloc (Nat.le_refl _) _)).keepB hp.below (by omega); clear hp)
    clear hn0
    go_loopw [17] (fun i wr => ∃ k : Nat, k ≤ L.length ∧ i = .int .i64 k ∧ NetBlk 71 wr w1.heap.size L.length (compTo L k) ∧ BoxAt wr (w.heap.size + 1) (.slice none 0 0) ∧ Below w.heap.size w wr) (fun i _ => L.length - (intOf i).toNat)
    case atStart => exact ⟨0, Nat.zero_le _, rfl, HN3.out.congr rfl (fun i _ => by simp [compTo]), BX3.out, HB3.out⟩
    case round =>
      obtain ⟨k, hk, rfl, hn, hbx, hb⟩ := hrel
      have HN := Lib.hid hn
      have HBX := Lib.hid hbx
      have HB := Lib.hid hb
      by_cases hlt : k < L.length
      · have hk16 : k < 16 := by omega
        have hk16' : (k : Int) < 16 := by omega
        have kn := hn.at.1
        have kk := hn.at.2 k hk16
        have kf := hn.frozen (1 + k)
        have ek : compTo L k k = rowM L k := by simp [compTo]
        rw [ek] at kk
        have hr := rowM_lt (L := L) (by omega) (fun v hv => (HG.out.2.1 v hv).1) k
        have hw := whole_lt (n := L.length) (by omega)
        have hbits : bits BinOp.andNot IntKind.u32 ((2 ^ L.length - 1 : Nat) : Int) (rowM L k : Int) = ((clrM (2 ^ L.length - 1) (rowM L k) : Nat) : Int) := by
          rw [u32_andNot_nat _ _ (by omega) (by omega)]; rfl
        have HBI := Lib.hid hbits
        obtain ⟨K, hK⟩ : ∃ K, K = 2 ^ L.length - 1 := ⟨_, rfl⟩
        have HK := Lib.hid hK
        clear hn hbx hb ek hbits hK
        go_wp2_with fail
        go_region_law (first | (go_simp; go_at_call 97; refine (wholeMask_any L.length _ (by omega)).mono ?_; rintro e w' ⟨rfl, rfl⟩))
        all_goals (
          rw [HBI.out]
          have hn5 : NetBlk 71 ((wr.setCell ⟨w1.heap.size, 1 + k, none⟩ (.int .u32 ((clrM (2 ^ L.length - 1) (rowM L k) : Nat) : Int))).drew) w1.heap.size L.length (fun j => if j = k then clrM (2 ^ L.length - 1) (rowM L k) else compTo L k j) := (HN.out.set k _ hk16).keep (Below.refl _ _).drew
          have hb5 : Below w.heap.size w ((wr.setCell ⟨w1.heap.size, 1 + k, none⟩ (.int .u32 ((clrM (2 ^ L.length - 1) (rowM L k) : Nat) : Int))).drew) := (HB.out.setCell (by simp; omega) _).drew
          have bx5 : BoxAt ((wr.setCell ⟨w1.heap.size, 1 + k, none⟩ (.int .u32 ((clrM (2 ^ L.length - 1) (rowM L k) : Nat) : Int))).drew) (w.heap.size + 1) (.slice none 0 0) := (HBX.out.setOther (by simp; omega) _).keep (Below.refl _ _).drew
          generalize (wr.setCell ⟨w1.heap.size, 1 + k, none⟩ (.int .u32 ((clrM (2 ^ L.length - 1) (rowM L k) : Nat) : Int))).drew = w5 at hn5 hb5 bx5 ⊢
          have HN5 := Lib.hid hn5
          have HB5 := Lib.hid hb5
          have BX5 := Lib.hid bx5
          have hc5 := hn5.at.2 k hk16
          simp only [if_true] at hc5
          have hf5 := hn5.frozen (1 + k)
          have hcl := clrM_lt (rowM L k) hw
          clear hn5 hb5 bx5 kn kk kf
          go_wp2_with fail
          refine (cut_any w1.heap.size (1 + k) _ (k : Int) _ hc5 hf5 hcl (by omega) hk16').mono ?_
          rintro e w6 ⟨rfl, hd6⟩
          have HN6 : Hid (NetBlk 71 w6 w1.heap.size L.length (compTo L (k + 1))) := by
            refine ((HN5.out.set k _ hk16).drawn hd6).congr rfl (fun i hi => ?_)
            by_cases e : i = k
            · subst e
              simp only [if_true, Int.toNat_natCast, compTo, Nat.lt_succ_self]
              exact comp_mask HG.out hlt
            · simp only [e, if_false, compTo]
              by_cases h1 : i < k
              · simp [h1, Nat.lt_succ_of_lt h1]
              · simp [h1, show ¬ i < k + 1 from by omega]
          have BX6 : Hid (BoxAt w6 (w.heap.size + 1) (.slice none 0 0)) := (BX5.out.setOther (by simp; omega) _).keep (hd6.below _)
          have HB6 : Hid (Below w.heap.size w w6) := (HB5.out.setCell (by simp; omega) _).trans (hd6.below _)
          clear hd6 hc5 hf5
          go_wp2
          go_roundw
          case rel => exact ⟨k + 1, by omega, by go_num, HN6.out, BX6.out, HB6.out⟩
          case measure => simp [intOf]; omega)
      · obtain rfl : k = L.length := by omega
        clear hn hbx hb
        go_wp2_with fail
        refine (graph_any w1.heap.size L.length _ _ HN.out (fun i => by unfold compTo; split; exact pm_lt _; exact rowM_lt (by omega) (fun v hv => (HG.out.2.1 v hv).1) i) hzn.1 hzn.2).mono ?_
        rintro e w7 ⟨n7, a7, c7, rfl, ho7, hb7⟩
        have e7 : maskL L.length (compTo L L.length) = adjL L.length (compA L) := by
          apply nthR_ext
          · rw [maskL_len, adjL_len]
          · intro i hi
            rw [maskL_len] at hi
            rw [maskL_nth _ hi, adjL_nth _ hi, compTo, if_pos hi]
        rw [e7] at ho7
        have kr := (HBX.out.keep hb7).1
        have kf := (HBX.out.keep hb7).2
        have hlt := HBX.out.lt
        have HO7 := Lib.hid ho7
        have HB7 : Hid (Below w.heap.size w w7) := HB.out.trans (hb7.mono HB.out.size)
        clear ho7 hb7 e7
        go_wp2
        have q0 : (w7.setCell ⟨w.heap.size + 1, 0, none⟩ (.slice a7 n7 c7)).cell? ⟨w.heap.size + 1, 0, none⟩ = some (.slice a7 n7 c7) := cell_set_same _ kr
        refine bodyPost_ret (v := .tuple #[.agg #[.slice a7 n7 c7], .bool true]) (by simp [results, Try.results42, go_sem, q0]) rfl ⟨n7, a7, c7, by rw [decide_eq_true HG.out], ?_, HB7.out.setCell (by simp) _⟩
        rw [compL, if_pos HG.out]
        exact (HO7.out.setBelow (by simp; omega) _).mono (by omega)
  · rw [decide_eq_false hG, netArr_no hG]
    have HE : Hid (compL L = []) := by show _ = _; rw [compL, if_neg hG]
    have HE2 : Hid (decide (GraphP L) = false) := decide_eq_false hG
    clear hG
    go_wp2_with (refine wpList_store_net rfl 71 (.tmp 4) (.tmp 10) rfl w1.heap.size 0 (fun _ => 0) rfl rfl Try.sizeNet 0 (fun _ => 0) hnb ?_; intro w3 hp; have HB3 : Hid (Below w.heap.size w w3) := (HB1.out.alloc HB1.out.size _).trans (hp.below.mono HB1.out.size); have BX3 : Hid (BoxAt w3 (w.heap.size + 1) (.slice none 0 0)) := (BX1.out.keep ((Below.refl _ _).alloc (Nat.le_refl _) _)).keepB hp.below (by omega); have kr := BX3.out.1; have kf := BX3.out.2; clear hp)
    have q0 : (w3.setCell ⟨w.heap.size + 1, 0, none⟩ (.slice none 0 0)).cell? ⟨w.heap.size + 1, 0, none⟩ = some (.slice none 0 0) := cell_set_same _ kr
    refine bodyPost_ret (v := .tuple #[.agg #[.slice none 0 0], .bool false]) (by simp [results, Try.results42, go_sem, q0]) rfl ?_
    rw [HE.out, HE2.out]
    exact GaveGB.no (HB3.out.setCell (by exact Nat.le_succ _) _)

end Go.Proofs.Ytikfbfclbmlopaa
