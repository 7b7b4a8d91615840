/- Walks: the iterator over the greatest cliques. -/
import Derived.Test.YtmfolclpddoplaaCL6
import Derived.RangeFuncNested
import Derived.RangeFuncBound
import Derived.RangeFuncCalls
import Derived.RangeFuncLeaves
import Derived.Shelf.Abstract
import Derived.Shelf.RegionOpen
import Derived.OwnWalkIn
import Derived.TacticsInMore
import Derived.LoopNIn
import Derived.LoopIn
import Derived.Deep.RegionHeld3
import Derived.Deep.RegionLaw
import Derived.Laws.EntriesVeiled
import Derived.BigQuiet

namespace Go.Proofs.Ytmfolclpddoplaa
open Go.RowKit Go.Shelf
attribute [local go_sem] Oper.semAt_some

/-- A clique, as yield takes it. -/
def encC (z : List Int) : Array Value := #[.int .u32 (mkB z : Int)]
/-- How the search ends: all have been handed out. -/
def WidPost (J : List (List Int) → World → Prop) (Y : List (List Int)) (W1 : World) (e : Ending) (W' : World) : Prop := e = .returned (.bool true) ∧ J Y W' ∧ KeepsT W1 W'

theorem cqTo_prefix (A : Nat → Nat → Bool) (f : Nat) (set left out : List Int) {k m : Nat} (h : k ≤ m) : cqTo A f set left out k <+: cqTo A f set left out m := by
  induction m with
  | zero => obtain rfl : k = 0 := by omega
            exact List.prefix_rfl
  | succ m ih =>
    by_cases e : k = m + 1
    · subst e; exact List.prefix_rfl
    · rw [cqTo_succ]
      exact (ih (by omega)).trans (List.prefix_append _ _)

set_option maxHeartbeats 8000000 in
set_option maxRecDepth 100000 in
theorem widened_any (m l bn n lo : Nat) (A : Nat → Nat → Bool) (Z : List (List Int)) (J : List (List Int) → World → Prop) (hA : RelP n A) (hn : 1 ≤ n ∧ n ≤ 16)
    (hJ : ∀ s A B c, J s A → lo ≤ c → (∀ o, A.heap[c]? = some o → ∃ cs fr, o = .cells cs 62 fr) → IterC lo c A B → J s B)
    (hY : ∀ pre x W1, J pre W1 → (pre ++ [x]) <+: Z → YieldAt Fence.wide (m - 1) Try.prog l (encC x) W1 fun e W' => e = .returned (.bool true) ∧ J (pre ++ [x]) W' ∧ KeepsT W1 W') :
    ∀ (f : Nat) (set left out : List Int) (pre : List (List Int)) (W1 : World), lo ≤ W1.heap.size → left.length < f → VtxL n set → SetP left n → VtxL n out → (pre ++ cqF A f set left out) <+: Z → NetBlk 65 W1 bn n (fun i => pm (A i)) → J pre W1 →
      Calls Try.prog 119 #[.pointer (some ⟨bn, 0, none⟩), .int .u32 (mkB set : Int), .int .u32 (mkB left : Int), .int .u32 (mkB out : Int), .func (.yield l) #[] #[]] W1 (WidPost J (pre ++ cqF A f set left out) W1) := by
  have HJB : Hid (∀ s A B, J s A → Below A.heap.size A B → J s B) := fun s A B h hb => hJ s A B (lo + A.heap.size) h (by omega) (fun o ho => by have := (Array.getElem?_eq_some_iff.1 ho).1; omega) (IterC.below hb)
  have HJS : Hid (∀ s A b i v u, J s A → BoxT 62 A b u → lo ≤ b → J s (A.setCell ⟨b, i, none⟩ v)) := fun s A b i v u h hb hlo => hJ s A _ (lo + A.heap.size) h (by omega) (fun o ho => by have := (Array.getElem?_eq_some_iff.1 ho).1; omega) (IterC.set hb hlo)
  intro f
  induction f with
  | zero => intro set left out pre W1 _ h; omega
  | succ f ih =>
    intro set left out pre W1 hlo hf hvs hsl hvo hpre hnet hj
    obtain ⟨w1, hw1⟩ : ∃ w1, w1 = (W1.alloc (.cells #[.int .u32 (mkB left : Int)] 62)).alloc (.cells #[.int .u32 (mkB out : Int)] 62) := ⟨_, rfl⟩
    have hb1 : Below W1.heap.size W1 w1 := by rw [hw1]; exact ((Below.refl _ _).alloc (Nat.le_refl _) _).alloc (by simp) _
    have hbf : BoxT 62 w1 W1.heap.size (.int .u32 (mkB left : Int)) := by rw [hw1]; exact heap_alloc2_old W1 _ _
    have hbd : BoxT 62 w1 (W1.heap.size + 1) (.int .u32 (mkB out : Int)) := by
      have := BoxT.new (W1.alloc (.cells #[.int .u32 (mkB left : Int)] 62)) (.int .u32 (mkB out : Int)) 62
      rw [size_alloc1, ← hw1] at this; exact this
    have HB1 := Lib.hid hb1
    have HBF := Lib.hid hbf
    have HBD := Lib.hid hbd
    have HJ1 := Lib.hid (HJB.out _ _ _ hj hb1)
    have HN1 := Lib.hid (hnet.keep hb1)
    have kd := hbd.box.1
    have kf := hbf.box.1
    have HVO := Lib.hid hvo
    have HSL := Lib.hid hsl
    have HVS := Lib.hid hvs
    have HP := Lib.hid hpre
    have hmo := mkB_lt out
    have hml := mkB_lt left
    have hll : left.length ≤ 16 := by have := hsl.len (by omega); omega
    by_cases hleaf : left = [] ∧ out = []
    · obtain ⟨rfl, rfl⟩ := hleaf
      rw [cqF_leaf] at hpre ⊢
      rw [mkB_nil] at kd kf hw1 ⊢
      have HYI := Lib.hid hY
      have HPP := Lib.hid hpre
      clear hb1 hbf hbd hj hnet hvo hsl hvs hpre ih hJ hY hmo hml
      refine (callsIn_wide (n := m)).1 ?_
      refine callsIn_of_wp Try.func119 rfl trivial ?_ rfl
      simp only [Try.ntmps119, List.size_toArray, List.length_cons, List.length_nil, Nat.reduceAdd, Nat.reduceSub, Array.replicate_succ, Array.replicate_zero, List.push_toArray, List.append_toArray, List.nil_append, List.cons_append]
      gi_wp2_with fail
      refine ⟨trivial, fun h => (by cases h), ?_⟩
      refine (callsIn_wide.2 (list_any 0 _ (by omega))).mono ?_
      rintro e w2 ⟨n2, a2, c2, rfl, ho2, hb2⟩
      have hl0 : listM 0 = [] := by rw [← mkB_nil]; exact mkB_list (n := n) hn.2 (fun i hi => absurd hi (by simp))
      rw [hl0] at ho2
      obtain ⟨a3, c3, e3⟩ := ho2.row.slice
      simp only [List.length_nil, Value.slice.injEq] at e3
      obtain ⟨rfl, rfl, rfl⟩ := e3
      have hb2 : Below w1.heap.size w1 w2 := by rw [hw1]; exact hb2
      have HB2 : Hid (Below W1.heap.size W1 w2) := HB1.out.trans (hb2.mono HB1.out.size)
      have HJ2 := Lib.hid (HJB.out _ _ _ HJ1.out hb2)
      rw [mkB_nil] at HBF
      have HBF2 := Lib.hid (HBF.out.keep hb2)
      clear ho2 hb2 kd kf hw1 hl0
      gi_wp2_with fail
      gi_loopw [19] (fun iv wr => iv = .int .i64 0 ∧ wr = w2) (fun _ _ => 0)
      case atStart => exact ⟨rfl, rfl⟩
      case round =>
        obtain ⟨rfl, rfl⟩ := hrel
        have kf := HBF2.out.box.1
        obtain ⟨fn, tmps, assign, body, hy, hR⟩ := HYI.out pre set wr HJ2.out HPP.out
        have HR := Lib.hid hR
        have hy := hy
        unfold encC at hy
        clear hR
        gi_wp2_with fail
        refine ⟨fun h => (by cases h), HR.out.mono ?_⟩
        rintro e W3 ⟨rfl, hJ3, hk3⟩
        have HX : Hid (WidPost J (pre ++ [set]) W1 (.returned (.bool true)) W3) := ⟨rfl, hJ3, (KeepsT.below HB2.out).trans hk3⟩
        clear hJ3 hk3 hy kf
        gi_wp2
        go_ret
        exact HX.out
    · have HF := Lib.hid (cqF_all (A := A) (f := f) (set := set) hleaf)
      have IH := Lib.hid ih
      rw [HF.out] at hpre ⊢
      have HPP := Lib.hid hpre
      clear hb1 hbf hbd hj hnet hvo hsl hvs hpre ih hJ hY
      go_enter Try.func119, Try.ntmps119
      go_wp2_with fail
      rw [← hw1]
      clear hw1
      refine (list_any (mkB out) _ hmo).mono ?_
      rintro e w2 ⟨n2, a2, c2, rfl, ho2, hb2⟩
      obtain ⟨xs, hxs⟩ : ∃ xs, xs = listM (mkB out) := ⟨_, rfl⟩
      have hlen := listM_len (mkB out)
      have HXM : Hid (∀ i, i < xs.length → ∃ u : Nat, nth xs i = (u : Int) ∧ u < 16 ∧ (u : Int) ∈ out) := fun i hi => by
        subst hxs
        obtain ⟨u, h1, h2, h3⟩ := (listM_mem _ _).1 (nth_mem hi)
        unfold mkB at h2
        rw [pm_bit, Bool.and_eq_true, hasB_mem] at h2
        exact ⟨u, h3.symm, h1, h2.2⟩
      have HXA : Hid (∀ u ∈ out, ∃ i, i < xs.length ∧ nth xs i = u) := fun u hu => by
        subst hxs
        have hb := HVO.out u hu
        have hm : u ∈ listM (mkB out) := (listM_mem _ _).2 ⟨u.toNat, by omega, by unfold mkB; rw [pm_bit, Bool.and_eq_true, decide_eq_true_iff, hasB_mem]; exact ⟨by omega, by rw [show ((u.toNat : Nat) : Int) = u by omega]; exact hu⟩, by omega⟩
        obtain ⟨i, hi, e⟩ := List.getElem_of_mem hm
        exact ⟨i, hi, by rw [nth_eq hi]; exact e⟩
      rw [← hxs] at ho2 hlen
      obtain ⟨a3, c3, e3⟩ := ho2.row.slice
      simp only [Value.slice.injEq] at e3
      obtain ⟨rfl, rfl, rfl⟩ := e3
      have HO2 := Lib.hid ho2
      have HB2 : Hid (Below W1.heap.size W1 w2) := HB1.out.trans (hb2.mono HB1.out.size)
      have HJ2 := Lib.hid (HJB.out _ _ _ HJ1.out hb2)
      have HN2 := Lib.hid (HN1.out.keep hb2)
      have HBF2 := Lib.hid (HBF.out.keep hb2)
      have HBD2 := Lib.hid (HBD.out.keep hb2)
      clear ho2 hb2 kd kf hxs
      go_wp2_with fail
      go_loopw [19] (fun iv wr => ∃ k : Nat, k ≤ xs.length ∧ iv = .int .i64 k ∧ (∀ j, j < k → clrM (mkB left) (pm (A (vtxN xs j))) ≠ 0) ∧ Below w2.heap.size w2 wr) (fun iv _ => xs.length - (intOf iv).toNat)
      case atStart => exact ⟨0, Nat.zero_le _, rfl, fun j hj => absurd hj (by omega), Below.refl _ _⟩
      case round =>
        obtain ⟨k, hk, rfl, hall, hb⟩ := hrel
        have HALL := Lib.hid hall
        have HBR := Lib.hid hb
        clear hall
        by_cases hlt : k < xs.length
        · obtain ⟨u, hu, hu16, humem⟩ := HXM.out k hlt
          obtain ⟨bx, ox, cx, ex, lx1, lx2, hcx⟩ := (HO2.out.row.keep hb).pos (by omega)
          simp only [Value.slice.injEq, true_and] at ex
          obtain ⟨rfl, rfl⟩ := ex
          have hck := hcx k hlt
          rw [hu] at hck
          have kf := (HBF2.out.keep hb).box.1
          have kn := (HN2.out.keep hb).at.2 u hu16
          have hkI : (k : Int) < (xs.length : Int) := by omega
          have huI : (u : Int) < 16 := by omega
          have hbits : bits BinOp.andNot IntKind.u32 (mkB left : Int) ((pm (A u) : Nat) : Int) = ((clrM (mkB left) (pm (A u)) : Nat) : Int) := by
            have q2 := pm_lt (A u)
            rw [u32_andNot_nat _ _ (by omega) (by omega)]; rfl
          have HPR := Lib.hid (mkB_prune (A := A) hn.2 HSL.out.vtx u)
          have HVK : Hid (vtxN xs k = u) := by show _ = _; unfold vtxN; rw [hu, Int.toNat_natCast]
          obtain ⟨q, hq⟩ : ∃ q, q = clrM (mkB left) (pm (A u)) := ⟨_, rfl⟩
          rw [← hq] at hbits HPR
          have HQ := Lib.hid hq
          have kl := fun z : Later wr => z.cell kf
          have kl1 := fun z : Later wr => z.cell kn
          clear hb hcx kf kn hu hq
          by_cases hq0 : q = 0
          · subst hq0
            have HNONE : Hid (cqTo A f set left out left.length = []) := by
              show _ = _
              rw [← HF.out]
              exact cqF_none hA.sym (f + 1) set left out ⟨(u : Int), humem, fun y hy => by rw [Int.toNat_natCast]; exact HPR.out.1 rfl y hy⟩
            go_wp2_with fail
            refine wp_region_later (by kernel_rfl) (by kernel_rfl) ?_
            repeat (go_big_quiet_step (fail))
            refine wpQuiet_nil ?_
            rintro _ ⟨z, rfl⟩
            have HZZ := Lib.hid z.bel
            generalize z.at = w4 at HZZ ⊢
            clear kl kl1 hck
            go_wp2
            go_ret
            refine ⟨rfl, ?_, ?_⟩
            · rw [HNONE.out, List.append_nil]
              exact HJB.out _ _ _ (HJB.out _ _ _ HJ2.out HBR.out) HZZ.out
            · exact KeepsT.below (HB2.out.trans ((HBR.out.trans (HZZ.out.mono HBR.out.size)).mono HB2.out.size))
          · have hqb : ((q : Int) == 0) = false := by rw [beq_eq_false_iff_ne]; omega
            have HNX : Hid (∀ j, j < k + 1 → clrM (mkB left) (pm (A (vtxN xs j))) ≠ 0) := fun j hj => by
              rcases Nat.lt_succ_iff_lt_or_eq.1 hj with h | h
              · exact HALL.out j h
              · subst h; rw [HVK.out, ← HQ.out]; exact hq0
            go_wp2_with fail
            refine wp_region_later (by kernel_rfl) (by kernel_rfl) ?_
            repeat (go_big_quiet_step (fail))
            refine wpQuiet_nil ?_
            rintro _ ⟨z, rfl⟩
            have HZZ := Lib.hid z.bel
            generalize z.at = w4 at HZZ ⊢
            clear kl kl1 hck
            go_wp2
            go_roundw
            case rel => exact ⟨k + 1, by omega, by go_num, HNX.out, HBR.out.trans (HZZ.out.mono HBR.out.size)⟩
            case measure => simp [intOf]; omega
        · obtain rfl : k = xs.length := by omega
          have hne : left ≠ [] := fun e => by
            cases ho : out with
            | nil => exact hleaf ⟨e, ho⟩
            | cons a t =>
              obtain ⟨i, hi, _⟩ := HXA.out a (by rw [ho]; exact List.mem_cons_self)
              refine HALL.out i hi ?_
              rw [e]
              exact (mkB_prune (A := A) hn.2 (fun x hx => absurd hx (by simp)) _).2 (fun u hu => absurd hu (by simp))
          have hlz : 0 < left.length := by cases left with | nil => exact absurd rfl hne | cons a t => simp
          have hm0 : mkB left ≠ 0 := fun e => hne ((mkB_zero hn.2 HSL.out.vtx).1 e)
          have hm0b : ((mkB left : Int) == 0) = false := by rw [beq_eq_false_iff_ne]; omega
          have kf := (HBF2.out.keep hb).box.1
          have HBFR := Lib.hid (HBF2.out.keep hb)
          have HBDR := Lib.hid (HBD2.out.keep hb)
          have HNR := Lib.hid (HN2.out.keep hb)
          have HJR := Lib.hid (HJB.out _ _ _ HJ2.out hb)
          have HBW : Hid (Below W1.heap.size W1 wr) := HB2.out.trans (hb.mono HB2.out.size)
          clear hb hne
          go_wp2_with fail
          refine (list_any (mkB left) _ hml).mono ?_
          rintro e w3 ⟨n3, a3, c3, rfl, ho3, hb3⟩
          rw [mkB_list hn.2 HSL.out] at ho3
          obtain ⟨a4, c4, e4⟩ := ho3.row.slice
          simp only [Value.slice.injEq] at e4
          obtain ⟨rfl, rfl, rfl⟩ := e4
          have HO3 := Lib.hid ho3
          have HB3 : Hid (Below W1.heap.size W1 w3) := HBW.out.trans (hb3.mono HBW.out.size)
          have HJ3 := Lib.hid (HJB.out _ _ _ HJR.out hb3)
          have HN3 := Lib.hid (HNR.out.keep hb3)
          have HBF3 := Lib.hid (HBFR.out.keep hb3)
          have HBD3 := Lib.hid (HBDR.out.keep hb3)
          clear ho3 hb3 kf
          go_wp2_with fail
          have HW3 : Hid (KeepsT W1 w3) := KeepsT.below HB3.out
          have hbl2r : W1.heap.size + 1 < wr.heap.size := HBDR.out.lt
          go_loopw [41] (fun iv wx => ∃ k : Nat, k ≤ left.length ∧ iv = .int .i64 k ∧ J (pre ++ cqTo A f set left out k) wx ∧ BoxT 62 wx W1.heap.size (.int .u32 (mkB (left.drop k) : Int)) ∧ BoxT 62 wx (W1.heap.size + 1) (.int .u32 (mkB (out ++ left.take k) : Int)) ∧ NetBlk 65 wx bn n (fun i => pm (A i)) ∧ OwnRow 2 wx wr.heap.size (.slice a3 left.length c3) left ∧ KeepsT W1 wx) (fun iv _ => left.length - (intOf iv).toNat)
          case atStart => exact ⟨0, Nat.zero_le _, rfl, by simpa [cqTo] using HJ3.out, by simpa using HBF3.out, by simpa using HBD3.out, HN3.out, HO3.out, HW3.out⟩
          case round =>
            rename World => wx
            obtain ⟨k, hk, rfl, hjx, hbfx, hbdx, hnx, hox, hkx⟩ := hrel
            have HJX := Lib.hid hjx
            have HBFX := Lib.hid hbfx
            have HBDX := Lib.hid hbdx
            have HNX := Lib.hid hnx
            have HOX := Lib.hid hox
            have HKX := Lib.hid hkx
            by_cases hlt : k < left.length
            · obtain ⟨bx, ox, cx, ex, lx1, lx2, hcx⟩ := hox.row.pos (by omega)
              simp only [Value.slice.injEq, true_and] at ex
              obtain ⟨rfl, rfl⟩ := ex
              have hck := hcx k hlt
              have hb := HSL.out.vtx _ (nth_mem hlt)
              obtain ⟨x, hx⟩ : ∃ x : Nat, nth left k = (x : Int) := ⟨(nth left k).toNat, by omega⟩
              rw [hx] at hck hb
              have hx16 : x < 16 := by omega
              have hxI : (x : Int) < 16 := by omega
              have hkI : (k : Int) < (left.length : Int) := by omega
              have hms := mkB_lt set
              have hmf := mkB_lt (left.drop k)
              have hmd := mkB_lt (out ++ left.take k)
              have HSN := Lib.hid (mkB_snoc set hx16)
              have HCT := Lib.hid (mkB_cut HSL.out hlt hx hx16)
              have HDN : Hid (mkB (out ++ left.take (k + 1)) = mkB (out ++ left.take k) ||| 2 ^ x) := by
                show _ = _
                rw [take_snoc hlt, hx, ← List.append_assoc, mkB_snoc _ hx16]
              have HSU := Lib.hid (cqTo_succ A f set left out k)
              rw [hx] at HSU
              have hlx := hnx.lt
              have hbl1 := hbfx.lt
              have hbl2 := hbdx.lt
              have hbnx : bn ≠ W1.heap.size ∧ bn ≠ W1.heap.size + 1 := ⟨fun e => by subst e; unfold BoxT at hbfx; rw [hnx] at hbfx; simp at hbfx, fun e => by subst e; unfold BoxT at hbdx; rw [hnx] at hbdx; simp at hbdx⟩
              clear hjx hbfx hbdx hnx hox hkx hcx
              go_wp2_with fail
              have HWR : Hid (W1.heap.size + 1 < wr.heap.size) := hbl2r
              refine (add_any wx.heap.size 0 (mkB set) (x : Int) _ (by go_simp) (by go_simp) hms (by omega) (by omega)).mono ?_
              rintro e w4 ⟨rfl, hd4⟩
              rw [Int.toNat_natCast, ← HSN.out] at hd4
              have hwn : BoxT 62 (wx.alloc (.cells #[.int .u32 (mkB set : Int)] 62)) wx.heap.size (.int .u32 (mkB set : Int)) := BoxT.new _ _ _
              have hba : Below wx.heap.size wx (wx.alloc (.cells #[.int .u32 (mkB set : Int)] 62)) := (Below.refl _ _).alloc (Nat.le_refl _) _
              have hbw4 : Below wx.heap.size wx w4 := (hba.setCell (p := ⟨wx.heap.size, 0, none⟩) (Nat.le_refl _) _).trans (hd4.below _)
              have HBX4 : Hid (BoxT 62 w4 wx.heap.size (.int .u32 (mkB (set ++ [(x : Int)]) : Int))) := (hwn.set _).keep (hd4.below _)
              have HJ4 : Hid (J (pre ++ cqTo A f set left out k) w4) := HJB.out _ _ _ (HJS.out _ _ wx.heap.size 0 (.int .u32 (mkB (set ++ [(x : Int)]) : Int)) _ (HJB.out _ _ _ HJX.out hba) hwn (by omega)) (hd4.below _)
              have HBF4 := Lib.hid (HBFX.out.keep hbw4)
              have HBD4 := Lib.hid (HBDX.out.keep hbw4)
              have HN4 := Lib.hid (HNX.out.keep hbw4)
              have HO4 := Lib.hid (HOX.out.keep hbw4)
              have HK4 := Lib.hid (HKX.out.trans (KeepsT.below hbw4))
              have kf := HBF4.out.box.1
              have ff := HBF4.out.box.2
              clear hd4 hwn hba hbw4
              go_wp2_with fail
              refine (cut_any W1.heap.size 0 (mkB (left.drop k)) (x : Int) _ kf ff hmf (by omega) (by omega)).mono ?_
              rintro e w5 ⟨rfl, hd5⟩
              rw [Int.toNat_natCast, HCT.out] at hd5
              have HBF5 : Hid (BoxT 62 w5 W1.heap.size (.int .u32 (mkB (left.drop (k + 1)) : Int))) := (HBF4.out.set _).keep (hd5.below _)
              have HBX5 : Hid (BoxT 62 w5 wx.heap.size (.int .u32 (mkB (set ++ [(x : Int)]) : Int))) := (HBX4.out.setOther (by show wx.heap.size ≠ W1.heap.size; omega) _).keep (hd5.below _)
              have HBD5 : Hid (BoxT 62 w5 (W1.heap.size + 1) (.int .u32 (mkB (out ++ left.take k) : Int))) := (HBD4.out.setOther (by show W1.heap.size + 1 ≠ W1.heap.size; omega) _).keep (hd5.below _)
              have HN5 : Hid (NetBlk 65 w5 bn n (fun i => pm (A i))) := (HN4.out.setOther (a := ⟨W1.heap.size, 0, none⟩) hbnx.1 _).keep (hd5.below _)
              have HO5 : Hid (OwnRow 2 w5 wr.heap.size (.slice (some ⟨bx, ox, none⟩) left.length c3) left) := (HO4.out.setBelow (by simp; omega) _).keep (hd5.below _)
              have HJ5 : Hid (J (pre ++ cqTo A f set left out k) w5) := HJB.out _ _ _ (HJS.out _ _ _ 0 _ _ HJ4.out HBF4.out hlo) (hd5.below _)
              have HK5 : Hid (KeepsT W1 w5) := (HK4.out.setNew (Nat.le_refl _)).trans (KeepsT.below (hd5.below _))
              clear hd5 kf ff HBF4 HBX4 HBD4 HN4 HO4 HJ4 HK4
              have hbm1 : bits BinOp.and IntKind.u32 (mkB (left.drop (k + 1)) : Int) ((pm (A x) : Nat) : Int) = (mkB (meetA A (left.drop (k + 1)) (x : Int)) : Int) := by
                have q1 := mkB_lt (left.drop (k + 1))
                have q2 := pm_lt (A x)
                rw [u32_and_nat _ _ (by omega) (by omega), mkB_meet]
              have hbm2 : bits BinOp.and IntKind.u32 (mkB (out ++ left.take k) : Int) ((pm (A x) : Nat) : Int) = (mkB (meetA A (out ++ left.take k) (x : Int)) : Int) := by
                have q1 := mkB_lt (out ++ left.take k)
                have q2 := pm_lt (A x)
                rw [u32_and_nat _ _ (by omega) (by omega), mkB_meet]
              have HIX : Hid (∀ W', Below w5.heap.size w5 W' → Calls Try.prog 119 #[.pointer (some ⟨bn, 0, none⟩), .int .u32 (mkB (set ++ [(x : Int)]) : Int), .int .u32 (mkB (meetA A (left.drop (k + 1)) (x : Int)) : Int), .int .u32 (mkB (meetA A (out ++ left.take k) (x : Int)) : Int), .func (.yield l) #[] #[]] W' (WidPost J (pre ++ cqTo A f set left out (k + 1)) W')) := fun W' hb' => by
                have hml2 := meetA_len A (left.drop (k + 1)) (x : Int)
                rw [List.length_drop] at hml2
                have h := IH.out (set ++ [(x : Int)]) (meetA A (left.drop (k + 1)) (x : Int)) (meetA A (out ++ left.take k) (x : Int)) (pre ++ cqTo A f set left out k) W' (by have h1 := HBX5.out.lt; have h2 := hb'.size; omega) (by omega) (HVS.out.app (fun y hy => by rw [List.mem_singleton] at hy; subst hy; exact hb)) (HSL.out.dropped _).meet (HVO.out.app (HSL.out.vtx.sub (fun _ h => List.mem_of_mem_take h))).meet (by
                  rw [List.append_assoc, ← HSU.out]
                  refine List.IsPrefix.trans ((List.prefix_append_right_inj _).2 ?_) HPP.out
                  exact cqTo_prefix A f set left out (by omega)) (HN5.out.keep hb') (HJB.out _ _ _ HJ5.out hb')
                rw [List.append_assoc, ← HSU.out] at h
                exact h
              have KS : Hid (∀ W', Below w5.heap.size w5 W' → W'.cell? ⟨wx.heap.size, 0, none⟩ = some (.int .u32 (mkB (set ++ [(x : Int)]) : Int)) ∧ W'.cell? ⟨W1.heap.size, 0, none⟩ = some (.int .u32 (mkB (left.drop (k + 1)) : Int)) ∧ W'.cell? ⟨W1.heap.size + 1, 0, none⟩ = some (.int .u32 (mkB (out ++ left.take k) : Int)) ∧ W'.cell? ⟨bn, 1 + x, none⟩ = some (.int .u32 ((pm (A x) : Nat) : Int))) := fun W' hb' => ⟨(HBX5.out.keep hb').box.1, (HBF5.out.keep hb').box.1, (HBD5.out.keep hb').box.1, (HN5.out.keep hb').at.2 x hx16⟩
              have KT : Hid (∀ W' W'', Below w5.heap.size w5 W' → KeepsT W' W'' → W''.cell? ⟨wx.heap.size, 0, none⟩ = some (.int .u32 (mkB (set ++ [(x : Int)]) : Int)) ∧ W''.cell? ⟨W1.heap.size, 0, none⟩ = some (.int .u32 (mkB (left.drop (k + 1)) : Int)) ∧ W''.cell? ⟨W1.heap.size + 1, 0, none⟩ = some (.int .u32 (mkB (out ++ left.take k) : Int)) ∧ W''.cell? ⟨bn, 1 + x, none⟩ = some (.int .u32 ((pm (A x) : Nat) : Int))) := fun W' W'' hb' hk' => ⟨(BoxM.kt (HBX5.out.keep hb') hk').box.1, (BoxM.kt (HBF5.out.keep hb') hk').box.1, (BoxM.kt (HBD5.out.keep hb') hk').box.1, ((HN5.out.keep hb').kt hk').at.2 x hx16⟩
              have ks := KS.out _ (Below.refl _ _)
              clear hck
              go_wp2_with fail
              go_cut [70] (fun tv W5 => tv = .bool false ∧ J (pre ++ cqTo A f set left out (k + 1)) W5 ∧ KeepsT w5 W5)
              case first =>
                go_region_held3 (fun wy => wy.cell? ⟨wx.heap.size, 0, none⟩ = some (.int .u32 (mkB (set ++ [(x : Int)]) : Int)) ∧ wy.cell? ⟨W1.heap.size, 0, none⟩ = some (.int .u32 (mkB (left.drop (k + 1)) : Int)) ∧ wy.cell? ⟨W1.heap.size + 1, 0, none⟩ = some (.int .u32 (mkB (out ++ left.take k) : Int)) ∧ wy.cell? ⟨bn, 1 + x, none⟩ = some (.int .u32 ((pm (A x) : Nat) : Int))) (first | exact ks | with_reducible exact KS.out _ (Below.refl _ _).drew | exact ks6)
                  (first
                    | (go_at_call 119; (with_reducible refine (HIX.out _ (Below.refl _ _).drew).mono ?_); rintro e w6 ⟨rfl, hj6, hk6⟩; have ks6 := KT.out _ _ (Below.refl _ _).drew hk6; have HJ6 := Lib.hid hj6; have HK6 : Hid (KeepsT w5 w6) := (KeepsT.below (Below.refl _ _).drew).trans hk6; clear hj6 hk6))
                all_goals (
                  go_wp2_with fail
                  go_meet
                  exact ⟨rfl, HJ6.out, HK6.out⟩)
              case rest =>
                rename World => w6
                obtain ⟨rfl, hj6, hk6⟩ := hcut
                have HJ6 := Lib.hid hj6
                have HBF6 := Lib.hid (BoxM.kt HBF5.out hk6)
                have HBD6 := Lib.hid (BoxM.kt HBD5.out hk6)
                have HN6 := Lib.hid (HN5.out.kt hk6)
                have HO6 := Lib.hid (HO5.out.kt hk6)
                have HK6 := Lib.hid (HK5.out.trans hk6)
                have kd := HBD6.out.box.1
                have fd := HBD6.out.box.2
                clear hj6 hk6 ks KS KT HIX hbm1 hbm2 HBF5 HBX5 HBD5 HN5 HO5 HJ5 HK5
                go_wp2_with fail
                refine (add_any (W1.heap.size + 1) 0 (mkB (out ++ left.take k)) (x : Int) _ kd fd hmd (by omega) (by omega)).mono ?_
                rintro e w7 ⟨rfl, hd7⟩
                rw [Int.toNat_natCast, ← HDN.out] at hd7
                have HBD7 : Hid (BoxT 62 w7 (W1.heap.size + 1) (.int .u32 (mkB (out ++ left.take (k + 1)) : Int))) := (HBD6.out.set _).keep (hd7.below _)
                have HBF7 : Hid (BoxT 62 w7 W1.heap.size (.int .u32 (mkB (left.drop (k + 1)) : Int))) := (HBF6.out.setOther (by show W1.heap.size ≠ W1.heap.size + 1; omega) _).keep (hd7.below _)
                have HN7 : Hid (NetBlk 65 w7 bn n (fun i => pm (A i))) := (HN6.out.setOther (a := ⟨W1.heap.size + 1, 0, none⟩) hbnx.2 _).keep (hd7.below _)
                have HO7 : Hid (OwnRow 2 w7 wr.heap.size (.slice (some ⟨bx, ox, none⟩) left.length c3) left) := (HO6.out.setBelow (by simp; have := HWR.out; omega) _).keep (hd7.below _)
                have HJ7 : Hid (J (pre ++ cqTo A f set left out (k + 1)) w7) := HJB.out _ _ _ (HJS.out _ _ _ 0 _ _ HJ6.out HBD6.out (by omega)) (hd7.below _)
                have HK7 : Hid (KeepsT W1 w7) := (HK6.out.setNew (by omega)).trans (KeepsT.below (hd7.below _))
                clear hd7 kd fd HBF6 HBD6 HN6 HO6 HJ6 HK6
                go_wp2
                go_roundw
                case rel => exact ⟨k + 1, by omega, by go_num, HJ7.out, HBF7.out, HBD7.out, HN7.out, HO7.out, HK7.out⟩
                case measure => simp [intOf]; omega
            · obtain rfl : k = left.length := by omega
              clear hjx hbfx hbdx hnx hox hkx
              go_wp2
              go_ret
              exact ⟨rfl, HJX.out, HKX.out⟩

end Go.Proofs.Ytmfolclpddoplaa
