/- The texts CB1, CB2, joined. -/
import Derived.Test.YtohjfcfcopbmoaaGreatDoorQCO1
import Derived.Test.YtohjfcfcopbmoaaGreatDoorQEN7
import Derived.Test.YtohjfcfcopbmoaaGreatDoorQB4
import Derived.Test.YtohjfcfcopbmoaaGreatDoorQF6
import Derived.Test.YtohjfcfcopbmoaaGreatDoorQC1

/- Walks: which of two lists is less, of the program. -/
namespace Go.Proofs.YtohjfcfcopbmoaaGreatDoor
open Go.RowKit

set_option maxHeartbeats 2000000 in
theorem precedes_any (v v1 : Value) (xs ys : List Int) (w : World) (h : RowAt w v xs) (h1 : RowAt w v1 ys) (hs : xs.length ≤ 1048576) :
    Calls Tryz.prog 99 #[v, v1] w fun e w' => e = .returned (.bool (ltB xs ys)) ∧ Below w.heap.size w w' := by
  obtain ⟨a0, c0, e0⟩ := h.slice
  obtain ⟨a1, c1, e1⟩ := h1.slice
  by_cases hl : ys.length = xs.length
  · have HC := Lib.hid (compare_any v v1 xs ys w h h1 hl hs)
    subst e0 e1
    have q1 : ((xs.length : Int) != (ys.length : Int)) = false := by rw [hl]; simp
    have HL := Lib.hid hl.symm
    clear hl h h1
    go_enter Tryz.func99, Tryz.ntmps99
    go_wp2_with fail
    refine HC.out.mono ?_
    rintro e w' ⟨r, rfl, r1, r2, hr, rfl⟩
    have HE : Hid (ltB xs ys = decide (r < 0)) := by
      refine ltB_of ?_
      rw [decide_eq_true_iff, hr]
      constructor
      · rintro (g | ⟨_, i, hi, hp, hx⟩)
        · have := HL.out; omega
        · exact ⟨i, hi, by have := HL.out; omega, hp, hx⟩
      · rintro ⟨i, hi, _, hp, hx⟩
        exact Or.inr ⟨HL.out, i, hi, hp, hx⟩
    clear hr r1 r2
    go_wp2
    go_ret
    exact ⟨by rw [HE.out]; rfl, Below.refl _ _⟩
  · have HLB := Lib.hid (ltB_len (xs := xs) (ys := ys) (fun e => hl e.symm))
    subst e0 e1
    have q1 : ((xs.length : Int) != (ys.length : Int)) = true := by rw [bne_iff_ne]; omega
    clear h h1
    go_enter Tryz.func99, Tryz.ntmps99
    go_wp2
    go_ret
    refine ⟨?_, Below.refl _ _⟩
    rw [HLB.out]
    rfl

end Go.Proofs.YtohjfcfcopbmoaaGreatDoor

/- Walks: the net inside a set. -/
namespace Go.Proofs.YtohjfcfcopbmoaaGreatDoor
open Go.RowKit

/-- The masks inside a mask, of the first k of its list. -/
def insT (M : Nat → Nat) (K k i : Nat) : Nat := if hasB ((listM K).take k) (i : Int) = true then M i &&& K else 0
theorem insT_zero (M : Nat → Nat) (K i : Nat) : insT M K 0 i = 0 := by
  unfold insT
  rw [if_neg]
  simp [hasB]
theorem insT_next (M : Nat → Nat) (K : Nat) {k v : Nat} (hk : k < (listM K).length) (hv : nth (listM K) k = (v : Int)) (i : Nat) : insT M K (k + 1) i = if i = v then M v &&& K else insT M K k i := by
  unfold insT
  rw [take_snoc hk, hv]
  by_cases e : i = v
  · subst e
    rw [if_pos rfl, if_pos ((hasB_mem _ _).2 (by simp))]
  · rw [if_neg e]
    have : hasB ((listM K).take k ++ [(v : Int)]) (i : Int) = hasB ((listM K).take k) (i : Int) := by
      rw [Bool.eq_iff_iff, hasB_mem, hasB_mem, List.mem_append, List.mem_singleton]
      constructor
      · rintro (h | h)
        · exact h
        · omega
      · exact Or.inl
    rw [this]
theorem insT_full (M : Nat → Nat) (K : Nat) {i : Nat} (hi : i < 16) : insT M K (listM K).length i = insM M K i := by
  unfold insT insM
  rw [List.take_length]
  have : hasB (listM K) (i : Int) = true ↔ K.testBit i = true := by
    rw [hasB_mem, listM_mem]
    constructor
    · rintro ⟨j, _, hb, e⟩
      have : j = i := by omega
      rwa [← this]
    · intro h; exact ⟨i, hi, h, rfl⟩
  by_cases h : K.testBit i = true
  · rw [if_pos (this.2 h), if_pos h]
  · rw [if_neg (fun e => h (this.1 e)), if_neg h]

set_option maxHeartbeats 4000000 in
set_option maxRecDepth 100000 in
theorem inside_any (g n : Nat) (M : Nat → Nat) (K : Nat) (w : World) (h : NetBlk 83 w g n M) (hM : ∀ i, M i < 65536) (hK : K < 65536) :
    Calls Tryz.prog 188 #[.pointer (some ⟨g, 0, none⟩), .int .u32 (K : Int)] w fun e w' => e = .returned (.agg (netArr n (insM M K))) ∧ Below w.heap.size w w' := by
  have hg := h.lt
  have HA : Hid (Below w.heap.size w ((w.alloc (.cells (netArr 0 (fun _ => 0)) 83)).alloc (.cells (netArr 0 (fun _ => 0)) 83))) := ((Below.refl _ _).alloc (Nat.le_refl _) _).alloc (by simp) _
  have r0 : NetBlk 83 ((w.alloc (.cells (netArr 0 (fun _ => 0)) 83)).alloc (.cells (netArr 0 (fun _ => 0)) 83)) w.heap.size 0 (fun _ => 0) := (netBlk_new w 0 (fun _ => 0)).keep ((Below.refl _ _).alloc (Nat.le_refl _) _)
  have g0 : NetBlk 83 ((w.alloc (.cells (netArr 0 (fun _ => 0)) 83)).alloc (.cells (netArr 0 (fun _ => 0)) 83)) (w.heap.size + 1) 0 (fun _ => 0) := by
    have := netBlk_new (w.alloc (.cells (netArr 0 (fun _ => 0)) 83)) 0 (fun _ => 0)
    rwa [size_alloc1] at this
  have HNK : Hid (∀ w', Below w.heap.size w w' → NetBlk 83 w' g n M) := fun w' hb => h.keep hb
  have kn := h.at.1
  have kn1 : ((w.alloc (.cells (netArr 0 (fun _ => 0)) 83))).cell? ⟨g, 0, none⟩ = some (.int .i64 (n : Int)) := cell_keep ((Below.refl _ _).alloc (Nat.le_refl _) _) kn
  have HM := Lib.hid hM
  have HK := Lib.hid hK
  have HR0 := Lib.hid r0
  clear h hM r0
  go_enter Tryz.func188, Tryz.ntmps188
  go_wp2_with (refine wpList_store_net rfl 83 (.tmp 5) (.tmp 12) rfl (w.heap.size + 1) n (fun _ => 0) rfl rfl Tryz.sizeNet 0 (fun _ => 0) g0 ?_; intro w3 hp; have HPU : Hid (NetBlk 83 w3 (w.heap.size + 1) n (fun _ => 0) ∧ NetBlk 83 w3 w.heap.size 0 (fun _ => 0) ∧ Below w.heap.size w w3) := ⟨hp.net, HR0.out.keepB hp.below (by omega), HA.out.trans (hp.below.mono (by omega))⟩; clear hp g0 HR0 HA)
  rename World => w3
  refine (list_any K w3 HK.out).mono ?_
  rintro e w4 ⟨n4, a4, c4, rfl, ho4, hb4⟩
  have HB4 : Hid (Below w.heap.size w w4) := HPU.out.2.2.trans (hb4.mono HPU.out.2.2.size)
  have HN4 := Lib.hid (HPU.out.1.keep hb4)
  have HR4 := Lib.hid (HPU.out.2.1.keep hb4)
  obtain ⟨a4', c4', e4⟩ := ho4.row.slice
  simp only [Value.slice.injEq] at e4
  obtain ⟨rfl, rfl, rfl⟩ := e4
  have HO4 : Hid (OwnRow 2 w4 (w.heap.size + 2) (.slice a4 (listM K).length c4) (listM K)) := ho4.mono (by have := HPU.out.1.lt; have := HPU.out.2.2.size; omega)
  have HL16 := Lib.hid (listM_mem K)
  have hll : (listM K).length ≤ 16 := listM_len K
  clear ho4 hb4 HPU
  go_wp2_with fail
  go_loopw [16] (fun iv wr => ∃ k : Nat, k ≤ (listM K).length ∧ iv = .int .i64 k ∧ NetBlk 83 wr (w.heap.size + 1) n (insT M K k) ∧ NetBlk 83 wr w.heap.size 0 (fun _ => 0) ∧ OwnRow 2 wr (w.heap.size + 2) (.slice a4 (listM K).length c4) (listM K) ∧ Below w.heap.size w wr) (fun iv _ => (listM K).length - (intOf iv).toNat)
  case atStart => exact ⟨0, Nat.zero_le _, rfl, HN4.out.congr rfl (fun i _ => (insT_zero M K i).symm), HR4.out, HO4.out, HB4.out⟩
  case round =>
    clear HN4 HR4 HO4 HB4
    obtain ⟨k, hk, rfl, hn, hr, ho, hb⟩ := hrel
    have HN := Lib.hid hn
    have HR := Lib.hid hr
    have HO := Lib.hid ho
    have HB := Lib.hid hb
    by_cases hlt : k < (listM K).length
    · obtain ⟨b4, o4, cc4, e4, l41, l42, hc4⟩ := ho.row.pos (by omega)
      simp only [Value.slice.injEq, true_and] at e4
      obtain ⟨rfl, rfl⟩ := e4
      obtain ⟨v, hv16, hvb, hve⟩ := (HL16.out _).1 (nth_mem hlt)
      have kv := hc4 k hlt
      rw [← hve] at kv
      have km := (HNK.out _ hb).at.2 v hv16
      have kz := hn.at.2 v hv16
      have hfz := hn.frozen (1 + v)
      have hv16I : (v : Int) < 16 := by omega
      have hkI : (k : Int) < ((listM K).length : Int) := by omega
      have HVE := Lib.hid hve
      have hMv := HM.out v
      clear hn hr ho hb hc4 hve hvb
      have hbm : bits BinOp.and IntKind.u32 ((M v : Nat) : Int) ((K : Nat) : Int) = ((M v &&& K : Nat) : Int) := by
        have := HK.out
        rw [u32_and_nat _ _ (by omega) (by omega)]
      have HE : Hid (NetBlk 83 (wr.setCell ⟨w.heap.size + 1, 1 + v, none⟩ (.int .u32 ((M v &&& K : Nat) : Int))) (w.heap.size + 1) n (insT M K (k + 1)) ∧ NetBlk 83 (wr.setCell ⟨w.heap.size + 1, 1 + v, none⟩ (.int .u32 ((M v &&& K : Nat) : Int))) w.heap.size 0 (fun _ => 0) ∧ OwnRow 2 (wr.setCell ⟨w.heap.size + 1, 1 + v, none⟩ (.int .u32 ((M v &&& K : Nat) : Int))) (w.heap.size + 2) (.slice (some ⟨b4, o4, none⟩) (listM K).length c4) (listM K) ∧ Below w.heap.size w (wr.setCell ⟨w.heap.size + 1, 1 + v, none⟩ (.int .u32 ((M v &&& K : Nat) : Int)))) :=
        ⟨(HN.out.set v (M v &&& K) hv16).congr rfl (fun i _ => (insT_next M K hlt HVE.out.symm i).symm), HR.out.setOther (by show w.heap.size ≠ w.heap.size + 1; omega) _, HO.out.setBelow (by show w.heap.size + 1 < w.heap.size + 2; omega) _, HB.out.setCell (p := ⟨w.heap.size + 1, 1 + v, none⟩) (by show w.heap.size ≤ w.heap.size + 1; omega) _⟩
      go_wp2_with fail
      go_roundw
      case rel => exact ⟨k + 1, by omega, by go_num, HE.out⟩
      case measure => simp [intOf]; omega
    · obtain rfl : k = (listM K).length := by omega
      have hn6 : NetBlk 83 wr (w.heap.size + 1) n (insM M K) := HN.out.congr rfl (fun i hi => insT_full M K hi)
      have hz6 := HR.out
      clear hn hr ho hb
      go_wp2_with (first | (refine wpList_load_net rfl 83 (.tmp 5) rfl (w.heap.size + 1) n (insM M K) rfl Tryz.sizeNet _ Tryz.underlying83 rfl hn6 ?_) | (refine wpList_store_net rfl 83 (.tmp 4) (.tmp 32) rfl w.heap.size n (insM M K) rfl rfl Tryz.sizeNet 0 (fun _ => 0) hz6 ?_; intro w5 hp))
      refine bodyPost_ret (v := .agg (netArr n (insM M K))) ?_ rfl ⟨rfl, HB.out.trans (hp.below.mono (by omega))⟩
      exact results_cell_row Tryz.results188 _ w5 w.heap.size 83 (netArr n (insM M K)) (0, 0) _ rfl hp.net Tryz.underlying83 rfl (by rw [Tryz.sizeNet, netArr_size])

end Go.Proofs.YtohjfcfcopbmoaaGreatDoor
