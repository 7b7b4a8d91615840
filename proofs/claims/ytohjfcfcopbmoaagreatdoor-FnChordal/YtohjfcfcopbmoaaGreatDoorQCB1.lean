/- The texts CB1, CB2, Y2, Y4, joined. -/
import Derived.Test.YtohjfcfcopbmoaaGreatDoorQCO1
import Derived.Test.YtohjfcfcopbmoaaGreatDoorQEN3
import Derived.Test.YtohjfcfcopbmoaaGreatDoorQB4
import Derived.Test.YtohjfcfcopbmoaaGreatDoorQF6
import Derived.Test.YtohjfcfcopbmoaaGreatDoorQC1
import Derived.Test.YtohjfcfcopbmoaaGreatDoorQY1
import Derived.Test.YtohjfcfcopbmoaaGreatDoorQW2
import Derived.Deep.RegionHeld3

/- Walks: which of two lists is less, of the program. -/
namespace Go.Proofs.YtohjfcfcopbmoaaGreatDoor
open Go.RowKit

set_option maxHeartbeats 2000000 in
theorem precedes_any (v v1 : Value) (xs ys : List Int) (w : World) (h : RowAt w v xs) (h1 : RowAt w v1 ys) (hs : xs.length ≤ 1048576) :
    Calls Tryz.prog 99 #[v, v1] w fun e w' => e = .returned (.bool (ltB xs ys)) ∧ Below w.heap.size w w' := by
  obtain ⟨a0, c0, e0⟩ := h.slice
  obtain ⟨a1, c1, e1⟩ := h1.slice
  by_cases hl : ys.length = xs.length
  · have HC := Lib.hid (compare_any v v1 xs ys w h h1 hl hs)
    subst e0 e1
    have q1 : ((xs.length : Int) != (ys.length : Int)) = false := by rw [hl]; simp
    have HL := Lib.hid hl.symm
    clear hl h h1
    go_enter Tryz.func99, Tryz.ntmps99
    go_wp2_with fail
    refine HC.out.mono ?_
    rintro e w' ⟨r, rfl, r1, r2, hr, rfl⟩
    have HE : Hid (ltB xs ys = decide (r < 0)) := by
      refine ltB_of ?_
      rw [decide_eq_true_iff, hr]
      constructor
      · rintro (g | ⟨_, i, hi, hp, hx⟩)
        · have := HL.out; omega
        · exact ⟨i, hi, by have := HL.out; omega, hp, hx⟩
      · rintro ⟨i, hi, _, hp, hx⟩
        exact Or.inr ⟨HL.out, i, hi, hp, hx⟩
    clear hr r1 r2
    go_wp2
    go_ret
    exact ⟨by rw [HE.out]; rfl, Below.refl _ _⟩
  · have HLB := Lib.hid (ltB_len (xs := xs) (ys := ys) (fun e => hl e.symm))
    subst e0 e1
    have q1 : ((xs.length : Int) != (ys.length : Int)) = true := by rw [bne_iff_ne]; omega
    clear h h1
    go_enter Tryz.func99, Tryz.ntmps99
    go_wp2
    go_ret
    refine ⟨?_, Below.refl _ _⟩
    rw [HLB.out]
    rfl

end Go.Proofs.YtohjfcfcopbmoaaGreatDoor

/- Walks: the net inside a set. -/
namespace Go.Proofs.YtohjfcfcopbmoaaGreatDoor
open Go.RowKit

/-- The masks inside a mask, of the first k of its list. -/
def insT (M : Nat → Nat) (K k i : Nat) : Nat := if hasB ((listM K).take k) (i : Int) = true then M i &&& K else 0
theorem insT_zero (M : Nat → Nat) (K i : Nat) : insT M K 0 i = 0 := by
  unfold insT
  rw [if_neg]
  simp [hasB]
theorem insT_next (M : Nat → Nat) (K : Nat) {k v : Nat} (hk : k < (listM K).length) (hv : nth (listM K) k = (v : Int)) (i : Nat) : insT M K (k + 1) i = if i = v then M v &&& K else insT M K k i := by
  unfold insT
  rw [take_snoc hk, hv]
  by_cases e : i = v
  · subst e
    rw [if_pos rfl, if_pos ((hasB_mem _ _).2 (by simp))]
  · rw [if_neg e]
    have : hasB ((listM K).take k ++ [(v : Int)]) (i : Int) = hasB ((listM K).take k) (i : Int) := by
      rw [Bool.eq_iff_iff, hasB_mem, hasB_mem, List.mem_append, List.mem_singleton]
      constructor
      · rintro (h | h)
        · exact h
        · omega
      · exact Or.inl
    rw [this]
theorem insT_full (M : Nat → Nat) (K : Nat) {i : Nat} (hi : i < 16) : insT M K (listM K).length i = insM M K i := by
  unfold insT insM
  rw [List.take_length]
  have : hasB (listM K) (i : Int) = true ↔ K.testBit i = true := by
    rw [hasB_mem, listM_mem]
    constructor
    · rintro ⟨j, _, hb, e⟩
      have : j = i := by omega
      rwa [← this]
    · intro h; exact ⟨i, hi, h, rfl⟩
  by_cases h : K.testBit i = true
  · rw [if_pos (this.2 h), if_pos h]
  · rw [if_neg (fun e => h (this.1 e)), if_neg h]

set_option maxHeartbeats 4000000 in
set_option maxRecDepth 100000 in
theorem inside_any (g n : Nat) (M : Nat → Nat) (K : Nat) (w : World) (h : NetBlk 83 w g n M) (hM : ∀ i, M i < 65536) (hK : K < 65536) :
    Calls Tryz.prog 188 #[.pointer (some ⟨g, 0, none⟩), .int .u32 (K : Int)] w fun e w' => e = .returned (.agg (netArr n (insM M K))) ∧ Below w.heap.size w w' := by
  have hg := h.lt
  have HA : Hid (Below w.heap.size w ((w.alloc (.cells (netArr 0 (fun _ => 0)) 83)).alloc (.cells (netArr 0 (fun _ => 0)) 83))) := ((Below.refl _ _).alloc (Nat.le_refl _) _).alloc (by simp) _
  have r0 : NetBlk 83 ((w.alloc (.cells (netArr 0 (fun _ => 0)) 83)).alloc (.cells (netArr 0 (fun _ => 0)) 83)) w.heap.size 0 (fun _ => 0) := (netBlk_new w 0 (fun _ => 0)).keep ((Below.refl _ _).alloc (Nat.le_refl _) _)
  have g0 : NetBlk 83 ((w.alloc (.cells (netArr 0 (fun _ => 0)) 83)).alloc (.cells (netArr 0 (fun _ => 0)) 83)) (w.heap.size + 1) 0 (fun _ => 0) := by
    have := netBlk_new (w.alloc (.cells (netArr 0 (fun _ => 0)) 83)) 0 (fun _ => 0)
    rwa [size_alloc1] at this
  have HNK : Hid (∀ w', Below w.heap.size w w' → NetBlk 83 w' g n M) := fun w' hb => h.keep hb
  have kn := h.at.1
  have kn1 : ((w.alloc (.cells (netArr 0 (fun _ => 0)) 83))).cell? ⟨g, 0, none⟩ = some (.int .i64 (n : Int)) := cell_keep ((Below.refl _ _).alloc (Nat.le_refl _) _) kn
  have HM := Lib.hid hM
  have HK := Lib.hid hK
  have HR0 := Lib.hid r0
  clear h hM r0
  go_enter Tryz.func188, Tryz.ntmps188
  go_wp2_with (refine wpList_store_net rfl 83 (.tmp 5) (.tmp 12) rfl (w.heap.size + 1) n (fun _ => 0) rfl rfl Tryz.sizeNet 0 (fun _ => 0) g0 ?_; intro w3 hp; have HPU : Hid (NetBlk 83 w3 (w.heap.size + 1) n (fun _ => 0) ∧ NetBlk 83 w3 w.heap.size 0 (fun _ => 0) ∧ Below w.heap.size w w3) := ⟨hp.net, HR0.out.keepB hp.below (by omega), HA.out.trans (hp.below.mono (by omega))⟩; clear hp g0 HR0 HA)
  rename World => w3
  refine (list_any K w3 HK.out).mono ?_
  rintro e w4 ⟨n4, a4, c4, rfl, ho4, hb4⟩
  have HB4 : Hid (Below w.heap.size w w4) := HPU.out.2.2.trans (hb4.mono HPU.out.2.2.size)
  have HN4 := Lib.hid (HPU.out.1.keep hb4)
  have HR4 := Lib.hid (HPU.out.2.1.keep hb4)
  obtain ⟨a4', c4', e4⟩ := ho4.row.slice
  simp only [Value.slice.injEq] at e4
  obtain ⟨rfl, rfl, rfl⟩ := e4
  have HO4 : Hid (OwnRow 2 w4 (w.heap.size + 2) (.slice a4 (listM K).length c4) (listM K)) := ho4.mono (by have := HPU.out.1.lt; have := HPU.out.2.2.size; omega)
  have HL16 := Lib.hid (listM_mem K)
  have hll : (listM K).length ≤ 16 := listM_len K
  clear ho4 hb4 HPU
  go_wp2_with fail
  go_loopw [16] (fun iv wr => ∃ k : Nat, k ≤ (listM K).length ∧ iv = .int .i64 k ∧ NetBlk 83 wr (w.heap.size + 1) n (insT M K k) ∧ NetBlk 83 wr w.heap.size 0 (fun _ => 0) ∧ OwnRow 2 wr (w.heap.size + 2) (.slice a4 (listM K).length c4) (listM K) ∧ Below w.heap.size w wr) (fun iv _ => (listM K).length - (intOf iv).toNat)
  case atStart => exact ⟨0, Nat.zero_le _, rfl, HN4.out.congr rfl (fun i _ => (insT_zero M K i).symm), HR4.out, HO4.out, HB4.out⟩
  case round =>
    clear HN4 HR4 HO4 HB4
    obtain ⟨k, hk, rfl, hn, hr, ho, hb⟩ := hrel
    have HN := Lib.hid hn
    have HR := Lib.hid hr
    have HO := Lib.hid ho
    have HB := Lib.hid hb
    by_cases hlt : k < (listM K).length
    · obtain ⟨b4, o4, cc4, e4, l41, l42, hc4⟩ := ho.row.pos (by omega)
      simp only [Value.slice.injEq, true_and] at e4
      obtain ⟨rfl, rfl⟩ := e4
      obtain ⟨v, hv16, hvb, hve⟩ := (HL16.out _).1 (nth_mem hlt)
      have kv := hc4 k hlt
      rw [← hve] at kv
      have km := (HNK.out _ hb).at.2 v hv16
      have kz := hn.at.2 v hv16
      have hfz := hn.frozen (1 + v)
      have hv16I : (v : Int) < 16 := by omega
      have hkI : (k : Int) < ((listM K).length : Int) := by omega
      have HVE := Lib.hid hve
      have hMv := HM.out v
      clear hn hr ho hb hc4 hve hvb
      have hbm : bits BinOp.and IntKind.u32 ((M v : Nat) : Int) ((K : Nat) : Int) = ((M v &&& K : Nat) : Int) := by
        have := HK.out
        rw [u32_and_nat _ _ (by omega) (by omega)]
      have HE : Hid (NetBlk 83 (wr.setCell ⟨w.heap.size + 1, 1 + v, none⟩ (.int .u32 ((M v &&& K : Nat) : Int))) (w.heap.size + 1) n (insT M K (k + 1)) ∧ NetBlk 83 (wr.setCell ⟨w.heap.size + 1, 1 + v, none⟩ (.int .u32 ((M v &&& K : Nat) : Int))) w.heap.size 0 (fun _ => 0) ∧ OwnRow 2 (wr.setCell ⟨w.heap.size + 1, 1 + v, none⟩ (.int .u32 ((M v &&& K : Nat) : Int))) (w.heap.size + 2) (.slice (some ⟨b4, o4, none⟩) (listM K).length c4) (listM K) ∧ Below w.heap.size w (wr.setCell ⟨w.heap.size + 1, 1 + v, none⟩ (.int .u32 ((M v &&& K : Nat) : Int)))) :=
        ⟨(HN.out.set v (M v &&& K) hv16).congr rfl (fun i _ => (insT_next M K hlt HVE.out.symm i).symm), HR.out.setOther (by show w.heap.size ≠ w.heap.size + 1; omega) _, HO.out.setBelow (by show w.heap.size + 1 < w.heap.size + 2; omega) _, HB.out.setCell (p := ⟨w.heap.size + 1, 1 + v, none⟩) (by show w.heap.size ≤ w.heap.size + 1; omega) _⟩
      go_wp2_with fail
      go_roundw
      case rel => exact ⟨k + 1, by omega, by go_num, HE.out⟩
      case measure => simp [intOf]; omega
    · obtain rfl : k = (listM K).length := by omega
      have hn6 : NetBlk 83 wr (w.heap.size + 1) n (insM M K) := HN.out.congr rfl (fun i hi => insT_full M K hi)
      have hz6 := HR.out
      clear hn hr ho hb
      go_wp2_with (first | (refine wpList_load_net rfl 83 (.tmp 5) rfl (w.heap.size + 1) n (insM M K) rfl Tryz.sizeNet _ Tryz.underlying83 rfl hn6 ?_) | (refine wpList_store_net rfl 83 (.tmp 4) (.tmp 32) rfl w.heap.size n (insM M K) rfl rfl Tryz.sizeNet 0 (fun _ => 0) hz6 ?_; intro w5 hp))
      refine bodyPost_ret (v := .agg (netArr n (insM M K))) ?_ rfl ⟨rfl, HB.out.trans (hp.below.mono (by omega))⟩
      exact results_cell_row Tryz.results188 _ w5 w.heap.size 83 (netArr n (insM M K)) (0, 0) _ rfl hp.net Tryz.underlying83 rfl (by rw [Tryz.sizeNet, netArr_size])

end Go.Proofs.YtohjfcfcopbmoaaGreatDoor

/- Walks: what can be reached. -/
namespace Go.Proofs.YtohjfcfcopbmoaaGreatDoor
open Go.RowKit Go.Shelf
attribute [local go_sem] Oper.semAt_some

/-- The mask of those that have come. -/
def gotN (pre : List (Nat × Nat)) : Nat := pre.foldl (fun m p => m ||| 2 ^ p.1) 0
theorem gotN_snoc (pre : List (Nat × Nat)) (p : Nat × Nat) : gotN (pre ++ [p]) = gotN pre ||| 2 ^ p.1 := by simp [gotN]
theorem gotN_bit (pre : List (Nat × Nat)) (u : Nat) : (gotN pre).testBit u = true ↔ ∃ p, p ∈ pre ∧ p.1 = u := by
  have key : ∀ (pre : List (Nat × Nat)) (m : Nat), (pre.foldl (fun m p => m ||| 2 ^ p.1) m).testBit u = true ↔ m.testBit u = true ∨ ∃ p, p ∈ pre ∧ p.1 = u := by
    intro pre
    induction pre with
    | nil => intro m; simp
    | cons q pre ih =>
      intro m
      rw [List.foldl_cons, ih, Nat.testBit_or, Nat.testBit_two_pow, Bool.or_eq_true, decide_eq_true_iff]
      constructor
      · rintro ((h | h) | ⟨p, hp, e⟩)
        · exact .inl h
        · exact .inr ⟨q, by simp, h⟩
        · exact .inr ⟨p, by simp [hp], e⟩
      · rintro (h | ⟨p, hp, e⟩)
        · exact .inl (.inl h)
        · rcases List.mem_cons.1 hp with rfl | hp
          · exact .inl (.inr e)
          · exact .inr ⟨p, hp, e⟩
  unfold gotN
  rw [key]
  simp
open Classical in
/-- The mask of all that can be reached. -/
noncomputable def reachN (A : Nat → Nat → Bool) (S : Nat → Bool) (v : Nat) : Nat := pm (fun u => decide (∃ k, AtD A S v k u))
theorem reachN_lt (A : Nat → Nat → Bool) (S : Nat → Bool) (v : Nat) : reachN A S v < 65536 := pm_lt _
open Classical in
theorem reachN_bit {A : Nat → Nat → Bool} {S : Nat → Bool} {v : Nat} (hS : ∀ u, S u = true → u < 16) (u : Nat) : (reachN A S v).testBit u = true ↔ ∃ k, AtD A S v k u := by
  unfold reachN
  rw [pm_bit, Bool.and_eq_true, decide_eq_true_iff, decide_eq_true_iff]
  exact ⟨fun h => h.2, fun h => ⟨hS u (wk_in h.choose_spec.1), h⟩⟩
theorem gotN_all {A : Nat → Nat → Bool} {S : Nat → Bool} {v : Nat} (hS : ∀ u, S u = true → u < 16) : gotN (visTo A S v 17) = reachN A S v := bit_ext fun u => by
  rw [gotN_bit, reachN_bit hS]
  constructor
  · rintro ⟨p, hp, rfl⟩
    exact ⟨_, ((visTo_mem hS).1 hp).2⟩
  · rintro ⟨k, hk⟩
    have := atD_lt hS hk
    exact ⟨(u, k), (visTo_mem hS).2 ⟨by show k < 17; omega, hk⟩, rfl⟩

set_option maxHeartbeats 2000000 in
set_option maxRecDepth 100000 in
theorem reached_any (bn n : Nat) (M : Nat → Nat) (v K : Nat) (w : World) (h : NetAt w bn n M) (hM : ∀ i, M i < 65536) (hK : K < 65536) (hv : v < 16) (hKv : K.testBit v = true) :
    Calls Tryz.prog 287 #[.pointer (some ⟨bn, 0, none⟩), .int .i64 (v : Int), .int .u32 (K : Int)] w fun e w' => e = .returned (.int .u32 (reachN (nearM M) (bitS K) v : Int)) ∧ Below w.heap.size w w' := by
  have hbn : bn < w.heap.size := block_lt_of_cell h.1
  refine calls_marks Tryz.func287 rfl ?_
  simp only [Tryz.ntmps287, List.size_toArray, List.length_cons, List.length_nil, Nat.reduceAdd, Nat.reduceSub, Array.replicate_succ, Array.replicate_zero, List.push_toArray, List.append_toArray, List.nil_append, List.cons_append]
  go_wp2_with (go_at_call 239; refine (visits_any _ _ _ _).mono ?_; rintro e w' ⟨rfl, rfl⟩)
  obtain ⟨w5, hw5⟩ : ∃ w5, (((w.alloc (.cells #[.int .u32 0] 80)).alloc (.cells #[.pointer (some ⟨bn, 0, none⟩)] 191)).alloc (.cells #[.int .i64 (v : Int)] 2)).alloc (.cells #[.int .u32 (K : Int)] 80) = w5 := ⟨_, rfl⟩
  have hb5 : Below w.heap.size w w5 := by rw [← hw5]; exact ((((Below.refl _ _).alloc (Nat.le_refl _) _).alloc (by simp) _).alloc (by simp; omega) _).alloc (by simp; omega) _
  have hs5 : w5.heap.size = w.heap.size + 4 := by rw [← hw5]; simp
  have HV : Hid (VisIn w5 (w.heap.size + 2) (w.heap.size + 3) (w.heap.size + 1) bn n M v K) := by
    refine ⟨?_, ?_, ?_, h.keep hb5⟩
    · subst hw5; go_simp
    · subst hw5; go_simp
    · subst hw5; go_simp
  have HR5 : Hid (w5.rowIs w.heap.size 80 1 (fun _ => .int .u32 (gotN [] : Int))) := by
    have h1 : (w.alloc (.cells #[.int .u32 0] 80)).rowIs w.heap.size 80 1 (fun _ => .int .u32 (gotN [] : Int)) := World.rowIs_alloc _ _ _ _ (fun i hi => by simp at hi; subst hi; rfl)
    refine h1.of_block ?_
    rw [← hw5]
    exact ((((Below.refl (w.heap.size + 1) _).alloc (by simp) _).alloc (by simp) _).alloc (by simp <;> omega) _).block _ (by omega)
  have HS := Lib.hid (bitS_lt hK)
  have HSQ := Lib.hid (visits1_seq (fun k => k = w.heap.size) 8 (w.heap.size + 2) (w.heap.size + 3) (w.heap.size + 1) bn n M v K w5 hM hK hv hKv HV.out ⟨by omega, by omega, by omega, by omega⟩ (fun k hk => by rw [hk]; omega))
  have HB5 := Lib.hid hb5
  simp only [Nat.add_assoc, Nat.reduceAdd] at *
  rw [hw5]
  clear hw5 HV hb5 h
  refine (wpIn_wide (n := 9)).1 ?_
  refine wpIn_rangeFunc_vis rfl (by omega) (gf := 279) (lb := #[.pointer (some ⟨w.heap.size + 2, 0, none⟩), .pointer (some ⟨w.heap.size + 3, 0, none⟩), .pointer (some ⟨w.heap.size + 1, 0, none⟩)]) rfl trivial (enters_of Tryz.func279 (by kernel_rfl) rfl)
    HSQ.out (fun k hk => by rw [hk]; omega) (fun _ => rfl)
    (fun pre W => W.rowIs w.heap.size 80 1 (fun _ => .int .u32 (gotN pre : Int)) ∧ gotN pre < 65536 ∧ Below w.heap.size w W)
    (fun _ _ _ => False)
    (fun s A B hs hb => ⟨hs.1.of_block (hb.block _ (by omega)), hs.2.1, hs.2.2.trans (hb.mono (by omega))⟩)
    (fun _ _ _ _ _ h _ => h)
    ⟨HR5.out, by simp [gotN], HB5.out⟩
    ?a1 ?assign ?body ?done ?stop
  case assign =>
    intro l x W K hK
    simp only [encP]
    gi_wp2
    exact hK
  case body =>
    rintro l pre ⟨u, d⟩ W ⟨hr, hgl, hb⟩ hsz ⟨hat, hd16, -⟩
    dsimp only at hat hd16
    have hu : u < 16 := HS.out u (wk_in hat.1)
    have hcc := hr.cell (i := 0) (by omega)
    have hcf := hr.frozen 0
    have HRR := Lib.hid hr
    have HB := Lib.hid hb
    have hg2 : gotN pre ||| 2 ^ u < 65536 := or_lt16 hgl hu
    clear hr hb hat
    gi_wp2_with fail
    refine ⟨trivial, ?_⟩
    refine (CallsIn.inRound l (callsIn_wide.2 (add_any _ _ _ _ _ hcc hcf hgl (by omega) (by omega)))).mono ?_
    rintro e w7 ⟨rfl, hd7⟩
    gi_wp2
    refine ⟨(KeepsBut.setCell (T := fun k => k = w.heap.size) _ _ _ rfl).trans (KeepsBut.below (hd7.below _)), ?_, ?_, (HB.out.setCell (p := ⟨w.heap.size, 0, none⟩) (Nat.le_refl _) _).trans (hd7.below _)⟩
    · refine (rowIs_drawn (HRR.out.set 0 _) hd7).congr (fun j hj => ?_)
      rw [gotN_snoc]
      simp [show j = 0 from by omega]
    · rw [gotN_snoc]; exact hg2
  case done =>
    rintro D ys W rfl ⟨hr, hgl, hb⟩ hD hK
    have hcc := hr.cell (i := 0) (by omega)
    have HRR := Lib.hid hr
    have HB := Lib.hid hb
    have HK := Lib.hid hK
    have hDW : D < W.heap.size := (Array.getElem?_eq_some_iff.1 hK).1
    clear hr hb hK
    go_wp2
    refine ⟨by simp, .inl ⟨_, _, rfl, run_takeDeferred HK.out, ?_⟩⟩
    exact ⟨_, results_tmp rfl _ _ _, by rw [← gotN_all HS.out]; rfl, HB.out.trans (below_put W D _ (by omega) hDW)⟩
  case stop =>
    rintro D c pre W _ h _ _
    exact h.elim

end Go.Proofs.YtohjfcfcopbmoaaGreatDoor

/- Plain facts: sets and masks, parts and masks; ConnectedIn, of the model. -/
namespace Go.Proofs.YtohjfcfcopbmoaaGreatDoor
open Go.RowKit

theorem set_list {xs : List Int} {n : Nat} (hn : n ≤ 16) (h : SetP xs n) : listM (maskTo xs xs.length) = xs := by
  refine sets_eq (listM_set _) (SetP.mk h.pairwise (fun x hx => by have := h.bounds x hx; omega)) (fun z => ?_)
  have hb := fun i => maskTo_bit xs xs.length i (fun j hj => (h j hj).1)
  rw [listM_mem]
  constructor
  · rintro ⟨i, hi, hb1, rfl⟩
    obtain ⟨j, hj, e⟩ := (hb i).1 hb1
    rw [← e]; exact nth_mem hj
  · intro hz
    have h2 := h.bounds z hz
    obtain ⟨j, hj, e⟩ := List.getElem_of_mem hz
    exact ⟨z.toNat, by omega, (hb _).2 ⟨j, hj, by rw [nth_eq hj, e]; omega⟩, by omega⟩
theorem bitS_mask {xs : List Int} {n : Int} (h : SetP xs n) : bitS (maskTo xs xs.length) = inS xs := by
  funext u
  show (maskTo xs xs.length).testBit u = hasB xs (u : Int)
  rw [Bool.eq_iff_iff, maskTo_bit xs xs.length u (fun j hj => (h j hj).1), hasB_iff]
theorem SetP.first {xs : List Int} {n : Int} (h : SetP xs n) {j : Nat} (hj : j < xs.length) : nth xs 0 ≤ nth xs j := by
  by_cases e : j = 0
  · subst e; exact Int.le_refl _
  · have := List.pairwise_iff_getElem.1 h.pairwise 0 j (by omega) hj (by omega)
    rw [nth_eq hj, nth_eq (by omega)]; omega
theorem least_first {xs : List Int} {n : Nat} (hn : n ≤ 16) (h : SetP xs n) (hx : 0 < xs.length) : maskTo xs xs.length ≠ 0 ∧ maskTo xs xs.length < 65536 ∧ leastM (maskTo xs xs.length) = (nth xs 0).toNat := by
  have hb := fun i => maskTo_bit xs xs.length i (fun j hj => (h j hj).1)
  have hl : maskTo xs xs.length < 65536 := maskTo_lt (n := n) (fun j hj => ⟨(h j hj).1, (h j hj).2.1⟩) (by omega) _ (Nat.le_refl _)
  have h0 := (h 0 hx).1
  have h1 : (maskTo xs xs.length).testBit (nth xs 0).toNat = true := (hb _).2 ⟨0, hx, by omega⟩
  have hne : maskTo xs xs.length ≠ 0 := fun e => by rw [e] at h1; simp at h1
  refine ⟨hne, hl, ?_⟩
  obtain ⟨_, hs2, hs3⟩ := leastM_spec hne hl
  obtain ⟨j, hj, e⟩ := (hb _).1 hs2
  have h2 := h.first hj
  rcases Nat.lt_trichotomy (leastM (maskTo xs xs.length)) (nth xs 0).toNat with hh | hh | hh
  · omega
  · exact hh
  · have := hs3 _ hh; rw [h1] at this; cases this

theorem partTo_mem {A : Nat → Nat → Bool} {S : Nat → Bool} {v k : Nat} (z : Int) : z ∈ partTo A S v k ↔ ∃ u : Nat, u < k ∧ (∃ d, AtD A S v d u) ∧ (u : Int) = z := by
  unfold partTo
  simp only [List.mem_map, List.mem_filter, List.mem_range, decide_eq_true_iff, dOf_nonneg]
  constructor
  · rintro ⟨u, ⟨h1, h2⟩, h3⟩; exact ⟨u, h1, h2, h3⟩
  · rintro ⟨u, h1, h2, h3⟩; exact ⟨u, ⟨h1, h2⟩, h3⟩
theorem partTo_list {A : Nat → Nat → Bool} {S : Nat → Bool} {v n : Nat} (hn : n ≤ 16) (hS : ∀ u, S u = true → u < n) : partTo A S v n = listM (reachN A S v) := by
  have hS16 : ∀ u, S u = true → u < 16 := fun u hu => by have := hS u hu; omega
  refine sets_eq (SetP.mk ?_ ?_) (listM_set _) (fun z => ?_)
  · unfold partTo
    rw [List.pairwise_map]
    refine List.Pairwise.imp ?_ (List.Pairwise.filter _ List.pairwise_lt_range)
    intro a b hab
    omega
  · intro x hx
    obtain ⟨u, h1, _, rfl⟩ := (partTo_mem x).1 hx
    omega
  · rw [partTo_mem, listM_mem]
    constructor
    · rintro ⟨u, h1, h2, h3⟩; exact ⟨u, by omega, (reachN_bit hS16 u).2 h2, h3⟩
    · rintro ⟨u, h1, h2, h3⟩
      have h4 := (reachN_bit hS16 u).1 h2
      exact ⟨u, hS u (wk_in h4.choose_spec.1), h4, h3⟩
theorem list_inj {a b : Nat} (ha : a < 65536) (hb : b < 65536) (h : listM a = listM b) : a = b := bit_ext fun u => by
  have hx : ∀ {c : Nat}, c < 65536 → (c.testBit u = true ↔ (u : Int) ∈ listM c) := fun {c} hc => by
    rw [listM_mem]
    constructor
    · intro h
      refine ⟨u, ?_, h, rfl⟩
      exact bitS_lt hc u h
    · rintro ⟨i, _, h1, h2⟩
      have : i = u := by omega
      subst this; exact h1
  rw [hx ha, hx hb, h]
theorem list_nodup (M : Nat) : (listM M).Nodup := by
  rw [List.nodup_iff_pairwise_ne]
  exact (listM_set M).pairwise.imp (fun h => by omega)
/-- A mask within another that has as many is the other. -/
theorem mask_full {R m : Nat} (hR : R < 65536) (hm : m < 65536) (hsub : ∀ u, R.testBit u = true → m.testBit u = true) (hl : (listM R).length = (listM m).length) : R = m := by
  refine list_inj hR hm (sets_eq (listM_set _) (listM_set _) (fun z => ?_))
  have hs : ∀ z, z ∈ listM R → z ∈ listM m := fun z hz => by
    obtain ⟨i, h1, h2, h3⟩ := (listM_mem _ _).1 hz
    exact (listM_mem _ _).2 ⟨i, h1, hsub i h2, h3⟩
  refine ⟨hs z, fun hz => ?_⟩
  rcases Classical.em (z ∈ listM R) with h1 | h1
  · exact h1
  · exfalso
    have h3 : (z :: listM R).Nodup := List.nodup_cons.2 ⟨h1, list_nodup R⟩
    have := h3.length_le_of_subset (l₂ := listM m) (fun y hy => by
      rcases List.mem_cons.1 hy with rfl | hy
      · exact hz
      · exact hs y hy)
    rw [List.length_cons] at this
    omega

/-- What ConnectedIn answers. -/
noncomputable def connB (L : List (List Int)) (xs : List Int) : Bool := setB L xs && decide (0 < xs.length) && decide ((partTo (nearB L) (inS xs) (nth xs 0).toNat L.length).length = xs.length)

theorem conn_mask {L : List (List Int)} {xs : List Int} (hG : GraphP L) (hs : SetP xs L.length) (hx : 0 < xs.length) :
    (reachN (nearM (rowM L)) (bitS (maskTo xs xs.length)) (leastM (maskTo xs xs.length)) = maskTo xs xs.length) ↔ (partTo (nearB L) (inS xs) (nth xs 0).toNat L.length).length = xs.length := by
  have hz := hG.1
  obtain ⟨h1, h2, h3⟩ := least_first hz.2 hs hx
  have hS : ∀ u, inS xs u = true → u < L.length := wkS (fun x hx => by have := hs.bounds x hx; omega)
  have hS16 : ∀ u, inS xs u = true → u < 16 := fun u hu => by have := hS u hu; omega
  rw [h3, bitS_mask hs, nearM_eq hG, partTo_list hz.2 hS]
  constructor
  · intro h; rw [h, set_list hz.2 hs]
  · intro h
    refine mask_full (reachN_lt _ _ _) h2 (fun u hu => ?_) (by rw [h, set_list hz.2 hs])
    have := wk_in ((reachN_bit hS16 u).1 hu).choose_spec.1
    rw [← bitS_mask hs] at this
    exact this

set_option maxHeartbeats 2000000 in
theorem implConnectedIn_any (v v1 : Value) (L : List (List Int)) (xs : List Int) (w : World) (h : GridAt w v L) (h1 : RowAt w v1 xs) (hT : TabAt w) :
    Calls Tryz.prog 247 #[.agg #[v], v1] w fun e w' => e = .returned (.bool (connB L xs)) ∧ Below w.heap.size w w' := by
  obtain ⟨a0, c0, rfl⟩ := h.slice
  have ha : Below w.heap.size w (w.alloc (.cells #[.slice a0 L.length c0] 26)) := (Below.refl _ _).alloc (Nat.le_refl _) _
  have hk := h.keep ha
  have R0 := Lib.hid (h1.keep ha)
  have HA := Lib.hid ha
  clear ha
  go_enter Tryz.func247, Tryz.ntmps247
  go_wp2_with fail
  refine (netOf_any _ _ _ hk).mono ?_
  rintro e w1 ⟨rfl, hb1⟩
  have HB1 : Hid (Below w.heap.size w w1) := HA.out.trans (hb1.mono (by simp))
  have S1 := Lib.hid (R0.out.keep hb1)
  have hz : w.heap.size ≤ w1.heap.size := HB1.out.size
  have hnb := netBlk_new w1 0 (fun _ => 0)
  clear hb1 hk h HA R0
  by_cases hG : GraphP L
  · have hz1 := hG.1
    have HG := Lib.hid hG
    have HLT : Hid (∀ i, rowM L i < 65536) := fun i => rowM_lt (by omega) (fun v hv => (hG.2.1 v hv).1) i
    rw [decide_eq_true hG, netArr_yes hG]
    clear hG
    go_wp2_with (refine wpList_store_net rfl 83 (.tmp 5) (.tmp 11) rfl w1.heap.size L.length (rowM L) rfl rfl Tryz.sizeNet 0 (fun _ => 0) hnb ?_; intro w3 hp; have hn0 := hp.net.at.1; have HNet := Lib.hid hp.net.at; have HB3 : Hid (Below w.heap.size w w3) := (HB1.out.alloc hz _).trans (hp.below.mono hz); have S3 := Lib.hid (S1.out.keep hp.since); clear hp)
    refine (maskOf_any _ _ _ _ S3.out (by omega) (by omega)).mono ?_
    rintro e w4 ⟨rfl, hb4⟩
    have HB4 : Hid (Below w.heap.size w w4) := HB3.out.trans (hb4.mono HB3.out.size)
    have HN4 := Lib.hid (HNet.out.keep hb4)
    have HT4 : Hid (TabAt w4) := hT.keep HB4.out
    clear hb4 hn0 hnb HNet
    by_cases hs : SetP xs L.length
    · rw [if_pos hs, decide_eq_true hs]
      by_cases hx : 0 < xs.length
      · obtain ⟨hm0, hml, hle⟩ := least_first hz1.2 hs hx
        have hsp := leastM_spec hm0 hml
        have HE : Hid (connB L xs = decide (reachN (nearM (rowM L)) (bitS (maskTo xs xs.length)) (leastM (maskTo xs xs.length)) = maskTo xs xs.length)) := by
          show connB L xs = _
          unfold connB setB
          rw [decide_eq_true HG.out, decide_eq_true hs, decide_eq_true hx, Bool.eq_iff_iff, decide_eq_true_iff, conn_mask HG.out hs hx]
          simp
        have hb1 : ((maskTo xs xs.length : Int) != 0) = true := by rw [bne_iff_ne]; omega
        have hb2 : ((maskTo xs xs.length) != 0) = true := by rw [bne_iff_ne]; exact hm0
        have hrl := reachN_lt (nearM (rowM L)) (bitS (maskTo xs xs.length)) (leastM (maskTo xs xs.length))
        clear hs hx hle
        go_wp2_with (first | (go_at_call 282; refine (least_any _ _ hml hm0 HT4.out).mono ?_; rintro e w' ⟨rfl, rfl⟩) | (go_at_call 287; refine (reached_any _ _ _ _ _ _ HN4.out HLT.out hml hsp.1 hsp.2.1).mono ?_; rintro e w7 ⟨rfl, hb7⟩; have HB7 : Hid (Below w.heap.size w w7) := HB4.out.trans (hb7.mono HB4.out.size); clear hb7))
        all_goals go_ret
        all_goals exact ⟨ret_bool (by rw [HE.out, Bool.eq_iff_iff]; simp; try omega), HB7.out⟩
      · have hx0 : xs = [] := List.length_eq_zero_iff.1 (by omega)
        subst hx0
        have HE : Hid (connB L [] = false) := by show connB L [] = _; unfold connB; simp
        have hm : maskTo [] ([] : List Int).length = 0 := rfl
        rw [hm]
        clear hx hs hm
        go_wp2
        go_ret
        exact ⟨ret_bool HE.out.symm, HB4.out⟩
    · rw [if_neg hs, decide_eq_false hs]
      have HE : Hid (connB L xs = false) := by show connB L xs = _; unfold connB setB; rw [decide_eq_false hs]; simp
      clear hs
      go_wp2
      go_ret
      exact ⟨ret_bool HE.out.symm, HB4.out⟩
  · have HE : Hid (connB L xs = false) := by show connB L xs = _; unfold connB setB; rw [decide_eq_false hG]; simp
    rw [decide_eq_false hG, netArr_no hG]
    clear hG
    go_wp2_with (refine wpList_store_net rfl 83 (.tmp 5) (.tmp 11) rfl w1.heap.size 0 (fun _ => 0) rfl rfl Tryz.sizeNet 0 (fun _ => 0) hnb ?_; intro w3 hp; have HB3 : Hid (Below w.heap.size w w3) := (HB1.out.alloc hz _).trans (hp.below.mono hz); clear hp)
    go_ret
    exact ⟨ret_bool HE.out.symm, HB3.out⟩

end Go.Proofs.YtohjfcfcopbmoaaGreatDoor
