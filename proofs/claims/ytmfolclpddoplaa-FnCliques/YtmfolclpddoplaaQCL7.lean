/- The texts CL7, CL8, joined. -/
import Derived.Test.YtmfolclpddoplaaQCL5
import Derived.RangeFuncNested
import Derived.RangeFuncBound
import Derived.RangeFuncCalls
import Derived.RangeFuncLeaves
import Derived.Shelf.Abstract
import Derived.Shelf.RegionOpen
import Derived.OwnWalkIn
import Derived.TacticsInMore
import Derived.LoopNIn
import Derived.LoopIn
import Derived.Deep.RegionHeld3
import Derived.Deep.RegionLaw
import Derived.Laws.EntriesVeiled
import Derived.BigQuiet
import Derived.Test.YtmfolclpddoplaaX4
import Derived.RangeFuncFrom

/- Walks: the iterator over the greatest cliques. -/
namespace Go.Proofs.Ytmfolclpddoplaa
open Go.RowKit Go.Shelf
attribute [local go_sem] Oper.semAt_some

/-- A clique, as yield takes it. -/
def encC (z : List Int) : Array Value := #[.int .u32 (mkB z : Int)]
/-- How the search ends: all have been handed out. -/
def WidPost (J : List (List Int) → World → Prop) (Y : List (List Int)) (W1 : World) (e : Ending) (W' : World) : Prop := e = .returned (.bool true) ∧ J Y W' ∧ KeepsT W1 W'

theorem cqTo_prefix (A : Nat → Nat → Bool) (f : Nat) (set left out : List Int) {k m : Nat} (h : k ≤ m) : cqTo A f set left out k <+: cqTo A f set left out m := by
  induction m with
  | zero => obtain rfl : k = 0 := by omega
            exact List.prefix_rfl
  | succ m ih =>
    by_cases e : k = m + 1
    · subst e; exact List.prefix_rfl
    · rw [cqTo_succ]
      exact (ih (by omega)).trans (List.prefix_append _ _)

set_option maxHeartbeats 8000000 in
set_option maxRecDepth 100000 in
theorem widened_any (m l bn n lo : Nat) (A : Nat → Nat → Bool) (Z : List (List Int)) (J : List (List Int) → World → Prop) (hA : RelP n A) (hn : 1 ≤ n ∧ n ≤ 16)
    (hJ : ∀ s A B c, J s A → lo ≤ c → (∀ o, A.heap[c]? = some o → ∃ cs fr, o = .cells cs 62 fr) → IterC lo c A B → J s B)
    (hY : ∀ pre x W1, J pre W1 → (pre ++ [x]) <+: Z → YieldAt Fence.wide (m - 1) Try.prog l (encC x) W1 fun e W' => e = .returned (.bool true) ∧ J (pre ++ [x]) W' ∧ KeepsT W1 W') :
    ∀ (f : Nat) (set left out : List Int) (pre : List (List Int)) (W1 : World), lo ≤ W1.heap.size → left.length < f → VtxL n set → SetP left n → VtxL n out → (pre ++ cqF A f set left out) <+: Z → NetBlk 65 W1 bn n (fun i => pm (A i)) → J pre W1 →
      Calls Try.prog 119 #[.pointer (some ⟨bn, 0, none⟩), .int .u32 (mkB set : Int), .int .u32 (mkB left : Int), .int .u32 (mkB out : Int), .func (.yield l) #[] #[]] W1 (WidPost J (pre ++ cqF A f set left out) W1) := by
  have HJB : Hid (∀ s A B, J s A → Below A.heap.size A B → J s B) := fun s A B h hb => hJ s A B (lo + A.heap.size) h (by omega) (fun o ho => by have := (Array.getElem?_eq_some_iff.1 ho).1; omega) (IterC.below hb)
  have HJS : Hid (∀ s A b i v u, J s A → BoxT 62 A b u → lo ≤ b → J s (A.setCell ⟨b, i, none⟩ v)) := fun s A b i v u h hb hlo => hJ s A _ (lo + A.heap.size) h (by omega) (fun o ho => by have := (Array.getElem?_eq_some_iff.1 ho).1; omega) (IterC.set hb hlo)
  intro f
  induction f with
  | zero => intro set left out pre W1 _ h; omega
  | succ f ih =>
    intro set left out pre W1 hlo hf hvs hsl hvo hpre hnet hj
    obtain ⟨w1, hw1⟩ : ∃ w1, w1 = (W1.alloc (.cells #[.int .u32 (mkB left : Int)] 62)).alloc (.cells #[.int .u32 (mkB out : Int)] 62) := ⟨_, rfl⟩
    have hb1 : Below W1.heap.size W1 w1 := by rw [hw1]; exact ((Below.refl _ _).alloc (Nat.le_refl _) _).alloc (by simp) _
    have hbf : BoxT 62 w1 W1.heap.size (.int .u32 (mkB left : Int)) := by rw [hw1]; exact heap_alloc2_old W1 _ _
    have hbd : BoxT 62 w1 (W1.heap.size + 1) (.int .u32 (mkB out : Int)) := by
      have := BoxT.new (W1.alloc (.cells #[.int .u32 (mkB left : Int)] 62)) (.int .u32 (mkB out : Int)) 62
      rw [size_alloc1, ← hw1] at this; exact this
    have HB1 := Lib.hid hb1
    have HBF := Lib.hid hbf
    have HBD := Lib.hid hbd
    have HJ1 := Lib.hid (HJB.out _ _ _ hj hb1)
    have HN1 := Lib.hid (hnet.keep hb1)
    have kd := hbd.box.1
    have kf := hbf.box.1
    have HVO := Lib.hid hvo
    have HSL := Lib.hid hsl
    have HVS := Lib.hid hvs
    have HP := Lib.hid hpre
    have hmo := mkB_lt out
    have hml := mkB_lt left
    have hll : left.length ≤ 16 := by have := hsl.len (by omega); omega
    by_cases hleaf : left = [] ∧ out = []
    · obtain ⟨rfl, rfl⟩ := hleaf
      rw [cqF_leaf] at hpre ⊢
      rw [mkB_nil] at kd kf hw1 ⊢
      have HYI := Lib.hid hY
      have HPP := Lib.hid hpre
      clear hb1 hbf hbd hj hnet hvo hsl hvs hpre ih hJ hY hmo hml
      refine (callsIn_wide (n := m)).1 ?_
      refine callsIn_of_wp Try.func119 rfl trivial ?_ rfl
      simp only [Try.ntmps119, List.size_toArray, List.length_cons, List.length_nil, Nat.reduceAdd, Nat.reduceSub, Array.replicate_succ, Array.replicate_zero, List.push_toArray, List.append_toArray, List.nil_append, List.cons_append]
      gi_wp2_with fail
      refine ⟨trivial, fun h => (by cases h), ?_⟩
      refine (callsIn_wide.2 (list_any 0 _ (by omega))).mono ?_
      rintro e w2 ⟨n2, a2, c2, rfl, ho2, hb2⟩
      have hl0 : listM 0 = [] := by rw [← mkB_nil]; exact mkB_list (n := n) hn.2 (fun i hi => absurd hi (by simp))
      rw [hl0] at ho2
      obtain ⟨a3, c3, e3⟩ := ho2.row.slice
      simp only [List.length_nil, Value.slice.injEq] at e3
      obtain ⟨rfl, rfl, rfl⟩ := e3
      have hb2 : Below w1.heap.size w1 w2 := by rw [hw1]; exact hb2
      have HB2 : Hid (Below W1.heap.size W1 w2) := HB1.out.trans (hb2.mono HB1.out.size)
      have HJ2 := Lib.hid (HJB.out _ _ _ HJ1.out hb2)
      rw [mkB_nil] at HBF
      have HBF2 := Lib.hid (HBF.out.keep hb2)
      clear ho2 hb2 kd kf hw1 hl0
      gi_wp2_with fail
      gi_loopw [19] (fun iv wr => iv = .int .i64 0 ∧ wr = w2) (fun _ _ => 0)
      case atStart => exact ⟨rfl, rfl⟩
      case round =>
        obtain ⟨rfl, rfl⟩ := hrel
        have kf := HBF2.out.box.1
        obtain ⟨fn, tmps, assign, body, hy, hR⟩ := HYI.out pre set wr HJ2.out HPP.out
        have HR := Lib.hid hR
        have hy := hy
        unfold encC at hy
        clear hR
        gi_wp2_with fail
        refine ⟨fun h => (by cases h), HR.out.mono ?_⟩
        rintro e W3 ⟨rfl, hJ3, hk3⟩
        have HX : Hid (WidPost J (pre ++ [set]) W1 (.returned (.bool true)) W3) := ⟨rfl, hJ3, (KeepsT.below HB2.out).trans hk3⟩
        clear hJ3 hk3 hy kf
        gi_wp2
        go_ret
        exact HX.out
    · have HF := Lib.hid (cqF_all (A := A) (f := f) (set := set) hleaf)
      have IH := Lib.hid ih
      rw [HF.out] at hpre ⊢
      have HPP := Lib.hid hpre
      clear hb1 hbf hbd hj hnet hvo hsl hvs hpre ih hJ hY
      go_enter Try.func119, Try.ntmps119
      go_wp2_with fail
      rw [← hw1]
      clear hw1
      refine (list_any (mkB out) _ hmo).mono ?_
      rintro e w2 ⟨n2, a2, c2, rfl, ho2, hb2⟩
      obtain ⟨xs, hxs⟩ : ∃ xs, xs = listM (mkB out) := ⟨_, rfl⟩
      have hlen := listM_len (mkB out)
      have HXM : Hid (∀ i, i < xs.length → ∃ u : Nat, nth xs i = (u : Int) ∧ u < 16 ∧ (u : Int) ∈ out) := fun i hi => by
        subst hxs
        obtain ⟨u, h1, h2, h3⟩ := (listM_mem _ _).1 (nth_mem hi)
        unfold mkB at h2
        rw [pm_bit, Bool.and_eq_true, hasB_mem] at h2
        exact ⟨u, h3.symm, h1, h2.2⟩
      have HXA : Hid (∀ u ∈ out, ∃ i, i < xs.length ∧ nth xs i = u) := fun u hu => by
        subst hxs
        have hb := HVO.out u hu
        have hm : u ∈ listM (mkB out) := (listM_mem _ _).2 ⟨u.toNat, by omega, by unfold mkB; rw [pm_bit, Bool.and_eq_true, decide_eq_true_iff, hasB_mem]; exact ⟨by omega, by rw [show ((u.toNat : Nat) : Int) = u by omega]; exact hu⟩, by omega⟩
        obtain ⟨i, hi, e⟩ := List.getElem_of_mem hm
        exact ⟨i, hi, by rw [nth_eq hi]; exact e⟩
      rw [← hxs] at ho2 hlen
      obtain ⟨a3, c3, e3⟩ := ho2.row.slice
      simp only [Value.slice.injEq] at e3
      obtain ⟨rfl, rfl, rfl⟩ := e3
      have HO2 := Lib.hid ho2
      have HB2 : Hid (Below W1.heap.size W1 w2) := HB1.out.trans (hb2.mono HB1.out.size)
      have HJ2 := Lib.hid (HJB.out _ _ _ HJ1.out hb2)
      have HN2 := Lib.hid (HN1.out.keep hb2)
      have HBF2 := Lib.hid (HBF.out.keep hb2)
      have HBD2 := Lib.hid (HBD.out.keep hb2)
      clear ho2 hb2 kd kf hxs
      go_wp2_with fail
      go_loopw [19] (fun iv wr => ∃ k : Nat, k ≤ xs.length ∧ iv = .int .i64 k ∧ (∀ j, j < k → clrM (mkB left) (pm (A (vtxN xs j))) ≠ 0) ∧ Below w2.heap.size w2 wr) (fun iv _ => xs.length - (intOf iv).toNat)
      case atStart => exact ⟨0, Nat.zero_le _, rfl, fun j hj => absurd hj (by omega), Below.refl _ _⟩
      case round =>
        obtain ⟨k, hk, rfl, hall, hb⟩ := hrel
        have HALL := Lib.hid hall
        have HBR := Lib.hid hb
        clear hall
        by_cases hlt : k < xs.length
        · obtain ⟨u, hu, hu16, humem⟩ := HXM.out k hlt
          obtain ⟨bx, ox, cx, ex, lx1, lx2, hcx⟩ := (HO2.out.row.keep hb).pos (by omega)
          simp only [Value.slice.injEq, true_and] at ex
          obtain ⟨rfl, rfl⟩ := ex
          have hck := hcx k hlt
          rw [hu] at hck
          have kf := (HBF2.out.keep hb).box.1
          have kn := (HN2.out.keep hb).at.2 u hu16
          have hkI : (k : Int) < (xs.length : Int) := by omega
          have huI : (u : Int) < 16 := by omega
          have hbits : bits BinOp.andNot IntKind.u32 (mkB left : Int) ((pm (A u) : Nat) : Int) = ((clrM (mkB left) (pm (A u)) : Nat) : Int) := by
            have q2 := pm_lt (A u)
            rw [u32_andNot_nat _ _ (by omega) (by omega)]; rfl
          have HPR := Lib.hid (mkB_prune (A := A) hn.2 HSL.out.vtx u)
          have HVK : Hid (vtxN xs k = u) := by show _ = _; unfold vtxN; rw [hu, Int.toNat_natCast]
          obtain ⟨q, hq⟩ : ∃ q, q = clrM (mkB left) (pm (A u)) := ⟨_, rfl⟩
          rw [← hq] at hbits HPR
          have HQ := Lib.hid hq
          have kl := fun z : Later wr => z.cell kf
          have kl1 := fun z : Later wr => z.cell kn
          clear hb hcx kf kn hu hq
          by_cases hq0 : q = 0
          · subst hq0
            have HNONE : Hid (cqTo A f set left out left.length = []) := by
              show _ = _
              rw [← HF.out]
              exact cqF_none hA.sym (f + 1) set left out ⟨(u : Int), humem, fun y hy => by rw [Int.toNat_natCast]; exact HPR.out.1 rfl y hy⟩
            go_wp2_with fail
            refine wp_region_later (by kernel_rfl) (by kernel_rfl) ?_
            repeat (go_big_quiet_step (fail))
            refine wpQuiet_nil ?_
            rintro _ ⟨z, rfl⟩
            have HZZ := Lib.hid z.bel
            generalize z.at = w4 at HZZ ⊢
            clear kl kl1 hck
            go_wp2
            go_ret
            refine ⟨rfl, ?_, ?_⟩
            · rw [HNONE.out, List.append_nil]
              exact HJB.out _ _ _ (HJB.out _ _ _ HJ2.out HBR.out) HZZ.out
            · exact KeepsT.below (HB2.out.trans ((HBR.out.trans (HZZ.out.mono HBR.out.size)).mono HB2.out.size))
          · have hqb : ((q : Int) == 0) = false := by rw [beq_eq_false_iff_ne]; omega
            have HNX : Hid (∀ j, j < k + 1 → clrM (mkB left) (pm (A (vtxN xs j))) ≠ 0) := fun j hj => by
              rcases Nat.lt_succ_iff_lt_or_eq.1 hj with h | h
              · exact HALL.out j h
              · subst h; rw [HVK.out, ← HQ.out]; exact hq0
            go_wp2_with fail
            refine wp_region_later (by kernel_rfl) (by kernel_rfl) ?_
            repeat (go_big_quiet_step (fail))
            refine wpQuiet_nil ?_
            rintro _ ⟨z, rfl⟩
            have HZZ := Lib.hid z.bel
            generalize z.at = w4 at HZZ ⊢
            clear kl kl1 hck
            go_wp2
            go_roundw
            case rel => exact ⟨k + 1, by omega, by go_num, HNX.out, HBR.out.trans (HZZ.out.mono HBR.out.size)⟩
            case measure => simp [intOf]; omega
        · obtain rfl : k = xs.length := by omega
          have hne : left ≠ [] := fun e => by
            cases ho : out with
            | nil => exact hleaf ⟨e, ho⟩
            | cons a t =>
              obtain ⟨i, hi, _⟩ := HXA.out a (by rw [ho]; exact List.mem_cons_self)
              refine HALL.out i hi ?_
              rw [e]
              exact (mkB_prune (A := A) hn.2 (fun x hx => absurd hx (by simp)) _).2 (fun u hu => absurd hu (by simp))
          have hlz : 0 < left.length := by cases left with | nil => exact absurd rfl hne | cons a t => simp
          have hm0 : mkB left ≠ 0 := fun e => hne ((mkB_zero hn.2 HSL.out.vtx).1 e)
          have hm0b : ((mkB left : Int) == 0) = false := by rw [beq_eq_false_iff_ne]; omega
          have kf := (HBF2.out.keep hb).box.1
          have HBFR := Lib.hid (HBF2.out.keep hb)
          have HBDR := Lib.hid (HBD2.out.keep hb)
          have HNR := Lib.hid (HN2.out.keep hb)
          have HJR := Lib.hid (HJB.out _ _ _ HJ2.out hb)
          have HBW : Hid (Below W1.heap.size W1 wr) := HB2.out.trans (hb.mono HB2.out.size)
          clear hb hne
          go_wp2_with fail
          refine (list_any (mkB left) _ hml).mono ?_
          rintro e w3 ⟨n3, a3, c3, rfl, ho3, hb3⟩
          rw [mkB_list hn.2 HSL.out] at ho3
          obtain ⟨a4, c4, e4⟩ := ho3.row.slice
          simp only [Value.slice.injEq] at e4
          obtain ⟨rfl, rfl, rfl⟩ := e4
          have HO3 := Lib.hid ho3
          have HB3 : Hid (Below W1.heap.size W1 w3) := HBW.out.trans (hb3.mono HBW.out.size)
          have HJ3 := Lib.hid (HJB.out _ _ _ HJR.out hb3)
          have HN3 := Lib.hid (HNR.out.keep hb3)
          have HBF3 := Lib.hid (HBFR.out.keep hb3)
          have HBD3 := Lib.hid (HBDR.out.keep hb3)
          clear ho3 hb3 kf
          go_wp2_with fail
          have HW3 : Hid (KeepsT W1 w3) := KeepsT.below HB3.out
          have hbl2r : W1.heap.size + 1 < wr.heap.size := HBDR.out.lt
          go_loopw [41] (fun iv wx => ∃ k : Nat, k ≤ left.length ∧ iv = .int .i64 k ∧ J (pre ++ cqTo A f set left out k) wx ∧ BoxT 62 wx W1.heap.size (.int .u32 (mkB (left.drop k) : Int)) ∧ BoxT 62 wx (W1.heap.size + 1) (.int .u32 (mkB (out ++ left.take k) : Int)) ∧ NetBlk 65 wx bn n (fun i => pm (A i)) ∧ OwnRow 2 wx wr.heap.size (.slice a3 left.length c3) left ∧ KeepsT W1 wx) (fun iv _ => left.length - (intOf iv).toNat)
          case atStart => exact ⟨0, Nat.zero_le _, rfl, by simpa [cqTo] using HJ3.out, by simpa using HBF3.out, by simpa using HBD3.out, HN3.out, HO3.out, HW3.out⟩
          case round =>
            rename World => wx
            obtain ⟨k, hk, rfl, hjx, hbfx, hbdx, hnx, hox, hkx⟩ := hrel
            have HJX := Lib.hid hjx
            have HBFX := Lib.hid hbfx
            have HBDX := Lib.hid hbdx
            have HNX := Lib.hid hnx
            have HOX := Lib.hid hox
            have HKX := Lib.hid hkx
            by_cases hlt : k < left.length
            · obtain ⟨bx, ox, cx, ex, lx1, lx2, hcx⟩ := hox.row.pos (by omega)
              simp only [Value.slice.injEq, true_and] at ex
              obtain ⟨rfl, rfl⟩ := ex
              have hck := hcx k hlt
              have hb := HSL.out.vtx _ (nth_mem hlt)
              obtain ⟨x, hx⟩ : ∃ x : Nat, nth left k = (x : Int) := ⟨(nth left k).toNat, by omega⟩
              rw [hx] at hck hb
              have hx16 : x < 16 := by omega
              have hxI : (x : Int) < 16 := by omega
              have hkI : (k : Int) < (left.length : Int) := by omega
              have hms := mkB_lt set
              have hmf := mkB_lt (left.drop k)
              have hmd := mkB_lt (out ++ left.take k)
              have HSN := Lib.hid (mkB_snoc set hx16)
              have HCT := Lib.hid (mkB_cut HSL.out hlt hx hx16)
              have HDN : Hid (mkB (out ++ left.take (k + 1)) = mkB (out ++ left.take k) ||| 2 ^ x) := by
                show _ = _
                rw [take_snoc hlt, hx, ← List.append_assoc, mkB_snoc _ hx16]
              have HSU := Lib.hid (cqTo_succ A f set left out k)
              rw [hx] at HSU
              have hlx := hnx.lt
              have hbl1 := hbfx.lt
              have hbl2 := hbdx.lt
              have hbnx : bn ≠ W1.heap.size ∧ bn ≠ W1.heap.size + 1 := ⟨fun e => by subst e; unfold BoxT at hbfx; rw [hnx] at hbfx; simp at hbfx, fun e => by subst e; unfold BoxT at hbdx; rw [hnx] at hbdx; simp at hbdx⟩
              clear hjx hbfx hbdx hnx hox hkx hcx
              go_wp2_with fail
              have HWR : Hid (W1.heap.size + 1 < wr.heap.size) := hbl2r
              refine (add_any wx.heap.size 0 (mkB set) (x : Int) _ (by go_simp) (by go_simp) hms (by omega) (by omega)).mono ?_
              rintro e w4 ⟨rfl, hd4⟩
              rw [Int.toNat_natCast, ← HSN.out] at hd4
              have hwn : BoxT 62 (wx.alloc (.cells #[.int .u32 (mkB set : Int)] 62)) wx.heap.size (.int .u32 (mkB set : Int)) := BoxT.new _ _ _
              have hba : Below wx.heap.size wx (wx.alloc (.cells #[.int .u32 (mkB set : Int)] 62)) := (Below.refl _ _).alloc (Nat.le_refl _) _
              have hbw4 : Below wx.heap.size wx w4 := (hba.setCell (p := ⟨wx.heap.size, 0, none⟩) (Nat.le_refl _) _).trans (hd4.below _)
              have HBX4 : Hid (BoxT 62 w4 wx.heap.size (.int .u32 (mkB (set ++ [(x : Int)]) : Int))) := (hwn.set _).keep (hd4.below _)
              have HJ4 : Hid (J (pre ++ cqTo A f set left out k) w4) := HJB.out _ _ _ (HJS.out _ _ wx.heap.size 0 (.int .u32 (mkB (set ++ [(x : Int)]) : Int)) _ (HJB.out _ _ _ HJX.out hba) hwn (by omega)) (hd4.below _)
              have HBF4 := Lib.hid (HBFX.out.keep hbw4)
              have HBD4 := Lib.hid (HBDX.out.keep hbw4)
              have HN4 := Lib.hid (HNX.out.keep hbw4)
              have HO4 := Lib.hid (HOX.out.keep hbw4)
              have HK4 := Lib.hid (HKX.out.trans (KeepsT.below hbw4))
              have kf := HBF4.out.box.1
              have ff := HBF4.out.box.2
              clear hd4 hwn hba hbw4
              go_wp2_with fail
              refine (cut_any W1.heap.size 0 (mkB (left.drop k)) (x : Int) _ kf ff hmf (by omega) (by omega)).mono ?_
              rintro e w5 ⟨rfl, hd5⟩
              rw [Int.toNat_natCast, HCT.out] at hd5
              have HBF5 : Hid (BoxT 62 w5 W1.heap.size (.int .u32 (mkB (left.drop (k + 1)) : Int))) := (HBF4.out.set _).keep (hd5.below _)
              have HBX5 : Hid (BoxT 62 w5 wx.heap.size (.int .u32 (mkB (set ++ [(x : Int)]) : Int))) := (HBX4.out.setOther (by show wx.heap.size ≠ W1.heap.size; omega) _).keep (hd5.below _)
              have HBD5 : Hid (BoxT 62 w5 (W1.heap.size + 1) (.int .u32 (mkB (out ++ left.take k) : Int))) := (HBD4.out.setOther (by show W1.heap.size + 1 ≠ W1.heap.size; omega) _).keep (hd5.below _)
              have HN5 : Hid (NetBlk 65 w5 bn n (fun i => pm (A i))) := (HN4.out.setOther (a := ⟨W1.heap.size, 0, none⟩) hbnx.1 _).keep (hd5.below _)
              have HO5 : Hid (OwnRow 2 w5 wr.heap.size (.slice (some ⟨bx, ox, none⟩) left.length c3) left) := (HO4.out.setBelow (by simp; omega) _).keep (hd5.below _)
              have HJ5 : Hid (J (pre ++ cqTo A f set left out k) w5) := HJB.out _ _ _ (HJS.out _ _ _ 0 _ _ HJ4.out HBF4.out hlo) (hd5.below _)
              have HK5 : Hid (KeepsT W1 w5) := (HK4.out.setNew (Nat.le_refl _)).trans (KeepsT.below (hd5.below _))
              clear hd5 kf ff HBF4 HBX4 HBD4 HN4 HO4 HJ4 HK4
              have hbm1 : bits BinOp.and IntKind.u32 (mkB (left.drop (k + 1)) : Int) ((pm (A x) : Nat) : Int) = (mkB (meetA A (left.drop (k + 1)) (x : Int)) : Int) := by
                have q1 := mkB_lt (left.drop (k + 1))
                have q2 := pm_lt (A x)
                rw [u32_and_nat _ _ (by omega) (by omega), mkB_meet]
              have hbm2 : bits BinOp.and IntKind.u32 (mkB (out ++ left.take k) : Int) ((pm (A x) : Nat) : Int) = (mkB (meetA A (out ++ left.take k) (x : Int)) : Int) := by
                have q1 := mkB_lt (out ++ left.take k)
                have q2 := pm_lt (A x)
                rw [u32_and_nat _ _ (by omega) (by omega), mkB_meet]
              have HIX : Hid (∀ W', Below w5.heap.size w5 W' → Calls Try.prog 119 #[.pointer (some ⟨bn, 0, none⟩), .int .u32 (mkB (set ++ [(x : Int)]) : Int), .int .u32 (mkB (meetA A (left.drop (k + 1)) (x : Int)) : Int), .int .u32 (mkB (meetA A (out ++ left.take k) (x : Int)) : Int), .func (.yield l) #[] #[]] W' (WidPost J (pre ++ cqTo A f set left out (k + 1)) W')) := fun W' hb' => by
                have hml2 := meetA_len A (left.drop (k + 1)) (x : Int)
                rw [List.length_drop] at hml2
                have h := IH.out (set ++ [(x : Int)]) (meetA A (left.drop (k + 1)) (x : Int)) (meetA A (out ++ left.take k) (x : Int)) (pre ++ cqTo A f set left out k) W' (by have h1 := HBX5.out.lt; have h2 := hb'.size; omega) (by omega) (HVS.out.app (fun y hy => by rw [List.mem_singleton] at hy; subst hy; exact hb)) (HSL.out.dropped _).meet (HVO.out.app (HSL.out.vtx.sub (fun _ h => List.mem_of_mem_take h))).meet (by
                  rw [List.append_assoc, ← HSU.out]
                  refine List.IsPrefix.trans ((List.prefix_append_right_inj _).2 ?_) HPP.out
                  exact cqTo_prefix A f set left out (by omega)) (HN5.out.keep hb') (HJB.out _ _ _ HJ5.out hb')
                rw [List.append_assoc, ← HSU.out] at h
                exact h
              have KS : Hid (∀ W', Below w5.heap.size w5 W' → W'.cell? ⟨wx.heap.size, 0, none⟩ = some (.int .u32 (mkB (set ++ [(x : Int)]) : Int)) ∧ W'.cell? ⟨W1.heap.size, 0, none⟩ = some (.int .u32 (mkB (left.drop (k + 1)) : Int)) ∧ W'.cell? ⟨W1.heap.size + 1, 0, none⟩ = some (.int .u32 (mkB (out ++ left.take k) : Int)) ∧ W'.cell? ⟨bn, 1 + x, none⟩ = some (.int .u32 ((pm (A x) : Nat) : Int))) := fun W' hb' => ⟨(HBX5.out.keep hb').box.1, (HBF5.out.keep hb').box.1, (HBD5.out.keep hb').box.1, (HN5.out.keep hb').at.2 x hx16⟩
              have KT : Hid (∀ W' W'', Below w5.heap.size w5 W' → KeepsT W' W'' → W''.cell? ⟨wx.heap.size, 0, none⟩ = some (.int .u32 (mkB (set ++ [(x : Int)]) : Int)) ∧ W''.cell? ⟨W1.heap.size, 0, none⟩ = some (.int .u32 (mkB (left.drop (k + 1)) : Int)) ∧ W''.cell? ⟨W1.heap.size + 1, 0, none⟩ = some (.int .u32 (mkB (out ++ left.take k) : Int)) ∧ W''.cell? ⟨bn, 1 + x, none⟩ = some (.int .u32 ((pm (A x) : Nat) : Int))) := fun W' W'' hb' hk' => ⟨(BoxM.kt (HBX5.out.keep hb') hk').box.1, (BoxM.kt (HBF5.out.keep hb') hk').box.1, (BoxM.kt (HBD5.out.keep hb') hk').box.1, ((HN5.out.keep hb').kt hk').at.2 x hx16⟩
              have ks := KS.out _ (Below.refl _ _)
              clear hck
              go_wp2_with fail
              go_cut [70] (fun tv W5 => tv = .bool false ∧ J (pre ++ cqTo A f set left out (k + 1)) W5 ∧ KeepsT w5 W5)
              case first =>
                go_region_held3 (fun wy => wy.cell? ⟨wx.heap.size, 0, none⟩ = some (.int .u32 (mkB (set ++ [(x : Int)]) : Int)) ∧ wy.cell? ⟨W1.heap.size, 0, none⟩ = some (.int .u32 (mkB (left.drop (k + 1)) : Int)) ∧ wy.cell? ⟨W1.heap.size + 1, 0, none⟩ = some (.int .u32 (mkB (out ++ left.take k) : Int)) ∧ wy.cell? ⟨bn, 1 + x, none⟩ = some (.int .u32 ((pm (A x) : Nat) : Int))) (first | exact ks | with_reducible exact KS.out _ (Below.refl _ _).drew | exact ks6)
                  (first
                    | (go_at_call 119; (with_reducible refine (HIX.out _ (Below.refl _ _).drew).mono ?_); rintro e w6 ⟨rfl, hj6, hk6⟩; have ks6 := KT.out _ _ (Below.refl _ _).drew hk6; have HJ6 := Lib.hid hj6; have HK6 : Hid (KeepsT w5 w6) := (KeepsT.below (Below.refl _ _).drew).trans hk6; clear hj6 hk6))
                all_goals (
                  go_wp2_with fail
                  go_meet
                  exact ⟨rfl, HJ6.out, HK6.out⟩)
              case rest =>
                rename World => w6
                obtain ⟨rfl, hj6, hk6⟩ := hcut
                have HJ6 := Lib.hid hj6
                have HBF6 := Lib.hid (BoxM.kt HBF5.out hk6)
                have HBD6 := Lib.hid (BoxM.kt HBD5.out hk6)
                have HN6 := Lib.hid (HN5.out.kt hk6)
                have HO6 := Lib.hid (HO5.out.kt hk6)
                have HK6 := Lib.hid (HK5.out.trans hk6)
                have kd := HBD6.out.box.1
                have fd := HBD6.out.box.2
                clear hj6 hk6 ks KS KT HIX hbm1 hbm2 HBF5 HBX5 HBD5 HN5 HO5 HJ5 HK5
                go_wp2_with fail
                refine (add_any (W1.heap.size + 1) 0 (mkB (out ++ left.take k)) (x : Int) _ kd fd hmd (by omega) (by omega)).mono ?_
                rintro e w7 ⟨rfl, hd7⟩
                rw [Int.toNat_natCast, ← HDN.out] at hd7
                have HBD7 : Hid (BoxT 62 w7 (W1.heap.size + 1) (.int .u32 (mkB (out ++ left.take (k + 1)) : Int))) := (HBD6.out.set _).keep (hd7.below _)
                have HBF7 : Hid (BoxT 62 w7 W1.heap.size (.int .u32 (mkB (left.drop (k + 1)) : Int))) := (HBF6.out.setOther (by show W1.heap.size ≠ W1.heap.size + 1; omega) _).keep (hd7.below _)
                have HN7 : Hid (NetBlk 65 w7 bn n (fun i => pm (A i))) := (HN6.out.setOther (a := ⟨W1.heap.size + 1, 0, none⟩) hbnx.2 _).keep (hd7.below _)
                have HO7 : Hid (OwnRow 2 w7 wr.heap.size (.slice (some ⟨bx, ox, none⟩) left.length c3) left) := (HO6.out.setBelow (by simp; have := HWR.out; omega) _).keep (hd7.below _)
                have HJ7 : Hid (J (pre ++ cqTo A f set left out (k + 1)) w7) := HJB.out _ _ _ (HJS.out _ _ _ 0 _ _ HJ6.out HBD6.out (by omega)) (hd7.below _)
                have HK7 : Hid (KeepsT W1 w7) := (HK6.out.setNew (by omega)).trans (KeepsT.below (hd7.below _))
                clear hd7 kd fd HBF6 HBD6 HN6 HO6 HJ6 HK6
                go_wp2
                go_roundw
                case rel => exact ⟨k + 1, by omega, by go_num, HJ7.out, HBF7.out, HBD7.out, HN7.out, HO7.out, HK7.out⟩
                case measure => simp [intOf]; omega
            · obtain rfl : k = left.length := by omega
              clear hjx hbfx hbdx hnx hox hkx
              go_wp2
              go_ret
              exact ⟨rfl, HJX.out, HKX.out⟩

end Go.Proofs.Ytmfolclpddoplaa

/- Walks: CliquesOf of the program. -/
namespace Go.Proofs.Ytmfolclpddoplaa
open Go.RowKit Go.Shelf
attribute [local go_sem] Oper.semAt_some

theorem cliques_any (bn : Nat) (w : World) :
    Calls Try.prog 78 #[.pointer (some ⟨bn, 0, none⟩)] w fun e w' =>
      e = .returned (.func (.func 118) #[] #[.pointer (some ⟨w.heap.size, 0, none⟩)]) ∧
      w' = w.alloc (.cells #[.pointer (some ⟨bn, 0, none⟩)] 102) := by
  have hmf : ∀ (fn : Fn) (first cap : Array Value) (w : World), (Instr.makeFunc fn first cap).run Try.prog w = .ok (.func fn first cap) w := fun _ _ _ _ => rfl
  go_enter Try.func78, Try.ntmps78
  go_wp2
  go_ret
  exact ⟨rfl, rfl⟩

theorem BoxP.kt {w w' : World} {b : Nat} {v : Value} (h : BoxT 102 w b v) (hk : KeepsT w w') : BoxT 102 w' b v := hk _ _ _ _ h (by decide) (by decide)
theorem mkB_all {n : Nat} (hn : n ≤ 16) : mkB (allL n) = 2 ^ n - 1 := by
  apply Nat.eq_of_testBit_eq
  intro j
  unfold mkB
  rw [pm_bit, Nat.testBit_two_pow_sub_one, Bool.eq_iff_iff, Bool.and_eq_true, decide_eq_true_iff, decide_eq_true_iff, hasB_mem, allL_mem]
  constructor
  · rintro ⟨_, i, hi, e⟩; omega
  · intro h; exact ⟨by omega, j, h, rfl⟩
theorem allL_set (n : Nat) : SetP (allL n) n := SetP.mk (allL_pair n) (fun x hx => by obtain ⟨i, hi, rfl⟩ := (allL_mem _ _).1 hx; omega)

set_option maxHeartbeats 4000000 in
set_option maxRecDepth 100000 in
theorem cliques1_seq (m pt bn n : Nat) (A : Nat → Nat → Bool) (w : World) (hA : RelP n A) (hn : 1 ≤ n ∧ n ≤ 16) (kt : BoxT 102 w pt (.pointer (some ⟨bn, 0, none⟩))) (hnet : NetBlk 65 w bn n (fun i => pm (A i))) :
    SeqTy Fence.wide m Try.prog 118 #[.pointer (some ⟨pt, 0, none⟩)] encC (cqF A 17 [] (allL n) []) w := by
  intro l J W hW hJ hY h0
  have HN := Lib.hid (hnet.keep hW)
  have KS : Hid (∀ W', Below W.heap.size W W' → W'.cell? ⟨pt, 0, none⟩ = some (.pointer (some ⟨bn, 0, none⟩)) ∧ W'.cell? ⟨bn, 0, none⟩ = some (.int .i64 (n : Int))) := fun W' hb => ⟨((kt.keep hW).keep hb).box.1, ((hnet.keep hW).keep hb).at.1⟩
  have KT : Hid (∀ W' W'', Below W.heap.size W W' → KeepsT W' W'' → W''.cell? ⟨pt, 0, none⟩ = some (.pointer (some ⟨bn, 0, none⟩)) ∧ W''.cell? ⟨bn, 0, none⟩ = some (.int .i64 (n : Int))) := fun W' W'' hb hk => ⟨(BoxP.kt ((kt.keep hW).keep hb) hk).box.1, ((((hnet.keep hW).keep hb)).kt hk).at.1⟩
  have HJB : Hid (∀ B, Below W.heap.size W B → J [] B) := fun B hb => hJ [] W B (w.heap.size + W.heap.size) h0 (by omega) (fun o ho => by have := (Array.getElem?_eq_some_iff.1 ho).1; omega) (IterC.below hb)
  have HIX : Hid (∀ W', Below W.heap.size W W' → Calls Try.prog 119 #[.pointer (some ⟨bn, 0, none⟩), .int .u32 0, .int .u32 ((2 ^ n - 1 : Nat) : Int), .int .u32 0, .func (.yield l) #[] #[]] W' (WidPost J (cqF A 17 [] (allL n) []) W')) := fun W' hb => by
    have h := widened_any m l bn n w.heap.size A (cqF A 17 [] (allL n) []) J hA hn hJ hY 17 [] (allL n) [] [] W' (Nat.le_trans hW.size hb.size) (by rw [allL_len]; omega) (fun x hx => absurd hx (by simp)) (allL_set n) (fun x hx => absurd hx (by simp)) (by rw [List.nil_append]; exact List.prefix_rfl) (HN.out.keep hb) (HJB.out _ hb)
    rw [mkB_nil, mkB_all hn.2, List.nil_append] at h
    exact h
  have ks := KS.out _ (Below.refl _ _)
  clear hW hJ hY h0 kt hnet
  refine callsIn_wide.2 ?_
  simp only [List.append_toArray, List.cons_append, List.nil_append]
  go_enter Try.func118, Try.ntmps118
  go_wp2_with fail
  go_region_held3 (fun wy => wy.cell? ⟨pt, 0, none⟩ = some (.pointer (some ⟨bn, 0, none⟩)) ∧ wy.cell? ⟨bn, 0, none⟩ = some (.int .i64 (n : Int))) (first | exact ks | with_reducible exact KS.out _ (Below.refl _ _).drew | exact ks6)
    (first
      | (go_at_call 98; refine (wholeMask_any n _ hn.2).mono ?_; rintro e w' ⟨rfl, hw'⟩; rw [← hw']; clear hw')
      | (go_at_call 119; refine (HIX.out _ (Below.refl _ _).drew).mono ?_; rintro e w6 ⟨rfl, hj6, hk6⟩; have ks6 := KT.out _ _ (Below.refl _ _).drew hk6; have HJ6 := Lib.hid hj6; clear hj6 hk6))
  all_goals (
    go_wp2
    go_end0
    exact ⟨⟨_, rfl⟩, HJ6.out⟩)

theorem OwnRow.keptC {T : TypeId} {w w' : World} {B : Nat} {v : Value} {xs : List Int} (h : OwnRow T w B v xs) (hk : ∀ (k : Nat) (cs : Array Value) (fr : Nat × Nat), w.heap[k]? = some (Obj.cells cs T fr) → w'.heap[k]? = some (Obj.cells cs T fr)) : OwnRow T w' B v xs := by
  obtain ⟨h1, h2, h3⟩ := h
  refine ⟨h1, h2, ?_⟩
  rcases h3 with h3 | ⟨g, cap, cur, e, hg, hh, r⟩
  · exact Or.inl h3
  · exact Or.inr ⟨g, cap, cur, e, hg, hk _ _ _ hh, r⟩
theorem OwnGrid.keptC {T T1 : TypeId} {w w' : World} {B : Nat} {v : Value} {L : List (List Int)} (h : OwnGrid T T1 w B v L) (hk : ∀ (k : Nat) (cs : Array Value) (U : TypeId) (fr : Nat × Nat), U = T ∨ U = T1 → w.heap[k]? = some (Obj.cells cs U fr) → w'.heap[k]? = some (Obj.cells cs U fr)) : OwnGrid T T1 w' B v L := by
  obtain ⟨R, h2, h3, h4, h5⟩ := h
  refine ⟨R, h2, ?_, fun i hi => (h4 i hi).keptC (fun k cs fr h => hk k cs T fr (.inl rfl) h), h5⟩
  rcases h3 with h3 | ⟨g, cap, cur, e, hg, hh, r⟩
  · exact Or.inl h3
  · exact Or.inr ⟨g, cap, cur, e, hg, hk _ _ _ _ (.inr rfl) hh, r⟩


section
variable {F : Fence} {n : Nat} {P : Program} {ops : Array Oper} {Q : Exit → Act → World → Prop}
theorem anyIn_oneC {fuel : Nat} {listed : Array Bool} {a : Act} {w : World} (i : Nat) (hr : Region.ready .any ops listed = [i]) (h : wpOpIn F n P ops Q i (wpAnyIn F n P .any ops Q fuel (listed.setIfInBounds i true)) a w) : wpAnyIn F n P .any ops Q (fuel + 1) listed a w := by
  refine ⟨fun h0 => (by rw [hr] at h0; cases h0), fun k hk => ?_⟩
  rw [hr] at hk
  simp at hk
  subst hk
  exact h
theorem anyIn_twoC {fuel : Nat} {listed : Array Bool} {a : Act} {w : World} (i j : Nat) (hr : Region.ready .any ops listed = [i, j]) (h : wpOpIn F n P ops Q i (wpAnyIn F n P .any ops Q fuel (listed.setIfInBounds i true)) a w)
    (h' : wpOpIn F n P ops Q j (wpAnyIn F n P .any ops Q fuel (listed.setIfInBounds j true)) a w) : wpAnyIn F n P .any ops Q (fuel + 1) listed a w := by
  refine ⟨fun h0 => (by rw [hr] at h0; cases h0), fun k hk => ?_⟩
  rw [hr] at hk
  simp at hk
  rcases hk with rfl | rfl
  · exact h
  · exact h'
theorem opIn_atC {i : Nat} {o : Oper} {K : Act → World → Prop} {a : Act} {w : World} (ho : ops[i]? = some o) (hg : o.guard = none) (h : o.wpIn F n P a w K Q) : wpOpIn F n P ops Q i K a w := by
  unfold wpOpIn
  rw [ho]
  have hw : Region.wanted o (yielded ops a.tmps) = true := by simp [Region.wanted, hg]
  simp only [hw, if_true]
  exact h
theorem wpIn_append_ownC (w : World) {o : Oper} {a : Act} {K : Act → World → Prop} (s x : Operand) (t : TypeId) (hop : o.op = Op.call { callee := Callee.builtin Builtin.append, args := #[s, x], argTypes := #[t, t] })
    (base : Nat) (e : TypeId) (i : TypeInfo) (z : Value) (size bytes : Nat) (h1 : P.underlying t = some (.slice e)) (h2 : P.info? e = some i) (h3 : i.zero = some z) (h4 : i.size = size) (h5 : i.bytes = bytes) (h6 : z.cells.size = size) (h7 : 0 < size)
    (v : Value) (k : Nat) (xs : List Value) (hs : a.eval s = v) (hown : w.ownsRow base e size v k xs) (ad : Addr) (m c : Nat) (news : List Value) (hx : a.eval x = .slice (some ad) m c) (hn : news.length = m * size)
    (hc : ∀ j u, news[j]? = some u → w.cell? (ad.add j) = some u) (h1c : ∀ u ∈ news, u.oneCell' = true) (b1 : k + m ≤ maxLen) (b2 : (k + m) * bytes ≤ 140737488355328) (b3 : base ≤ w.heap.size)
    (hK : ∀ v' w', w'.ownsRow base e size v' (k + m) (xs ++ news) → w.grownBy w' v.ownBlock → K (a.put o.dst v') w') : o.wpIn F n P a w K Q := by
  obtain ⟨v', w', hrun, r1, r2, r3⟩ := run_append_own (P := P) w base t o.type e i z size bytes h1 h2 h3 h4 h5 h6 h7 v k xs hown ad m c news hn hc h1c b1 b2 b3
  unfold Oper.wpIn
  refine ⟨?_, ?_⟩
  · simp [Oper.about, hop, resolve, Target.leads, Sem.run_pure]
  · rw [Oper.semAt_plain F _ _ (by rw [hop]; intro c hc'; cases hc')]
    simp [execOp, hop, resolve, invoke, builtin, hs, hx, hrun, Result.andThen]
    exact hK v' w' r1 r2
end


/-- The program's list of cliques, half done. -/
def CqI (w : World) (bx B : Nat) (Y : List (List Int)) (W : World) : Prop :=
  (∃ val, W.heap[bx]? = some (.cells #[val] 27 (0, 0)) ∧ OwnGrid 2 31 W B val Y) ∧ Below w.heap.size w W
theorem CqI.iter {w : World} {bx B lo c : Nat} {Y : List (List Int)} {A C : World} (h : CqI w bx B Y A) (hlo : w.heap.size ≤ lo) (hc : lo ≤ c) (ht : ∀ o, A.heap[c]? = some o → (∃ cs fr, o = .cells cs 62 fr) ∨ ∀ cs U fr, o ≠ .cells cs U fr) (hi : IterC lo c A C) : CqI w bx B Y C := by
  obtain ⟨⟨val, hb, hg⟩, hbel⟩ := h
  have hk : ∀ (k : Nat) (cs : Array Value) (U : TypeId) (fr : Nat × Nat), U ≠ 62 → A.heap[k]? = some (Obj.cells cs U fr) → C.heap[k]? = some (Obj.cells cs U fr) := fun k cs U fr hU h => by
    refine hi.other k _ (fun e => ?_) h (fun _ cs' fr' e => ?_)
    · subst e
      rcases ht _ h with ⟨cs', fr', e⟩ | e
      · simp at e; exact hU e.2.1
      · exact e cs U fr rfl
    · simp at e; exact hU e.2.1
  refine ⟨⟨val, hk _ _ _ _ (by decide) hb, hg.keptC (fun k cs U fr hU h => hk k cs U fr (by rcases hU with e | e <;> (rw [e]; decide)) h)⟩, ?_⟩
  refine ⟨hi.os.trans hbel.os, hi.tape.trans hbel.tape, hi.output.trans hbel.output, Nat.le_trans hbel.size hi.size, fun k hk' => ?_⟩
  have he := hbel.block k hk'
  have hs : k < A.heap.size := Nat.lt_of_lt_of_le hk' hbel.size
  have hx : A.heap[k]? = some A.heap[k] := Array.getElem?_eq_getElem hs
  rw [hi.other k _ (by omega) hx (fun h => absurd h (by omega)), ← hx]
  exact he

set_option maxHeartbeats 4000000 in
set_option maxRecDepth 100000 in
theorem implCliquesOf_any (v : Value) (L : List (List Int)) (w : World) (h : GridAt w v L) : Calls Try.prog 30 #[.agg #[v]] w (GaveGrid w (cqlL L)) := by
  obtain ⟨j0, hj, hy0, hy1, hy2⟩ := info_parts Try.infoR
  obtain ⟨a0, c0, rfl⟩ := h.slice
  have ha : Below w.heap.size w (w.alloc (.cells #[.slice a0 L.length c0] 29)) := (Below.refl _ _).alloc (Nat.le_refl _) _
  have hk := h.keep ha
  have HA := Lib.hid ha
  clear ha
  refine calls_marks Try.func30 rfl ?_
  simp only [Try.ntmps30, List.size_toArray, List.length_cons, List.length_nil, Nat.reduceAdd, Nat.reduceSub, Array.replicate_succ, Array.replicate_zero, List.push_toArray, List.append_toArray, List.nil_append, List.cons_append]
  go_wp2_with fail
  refine (netOf_any _ _ _ hk).mono ?_
  rintro e w1 ⟨rfl, hb1⟩
  have HB1 : Hid (Below w.heap.size w w1) := HA.out.trans (hb1.mono (by simp))
  have hz : w.heap.size ≤ w1.heap.size := HB1.out.size
  have hnb := netBlk_new w1 0 (fun _ => 0)
  clear hb1 hk h HA
  by_cases hG : GraphP L
  · have hzz := hG.1
    have HREL := Lib.hid (adjB_rel hG)
    have HRM : Hid (∀ i, i < 16 → rowM L i = pm (adjB L i)) := fun i _ => by rw [rowM_pm hG]
    have HE : Hid (cqlL L = cqF (adjB L) 17 [] (allL L.length) []) := if_pos hG
    have HST : Hid (∀ z ∈ cqF (adjB L) 17 [] (allL L.length) [], SetP z L.length) := cqF_sets (adjB L) 17 [] (allL L.length) [] (fun i hi => absurd hi (by simp)) (allL_set _) (fun x hx => absurd hx (by simp))
    have HLN : Hid ((cqF (adjB L) 17 [] (allL L.length) []).length ≤ 65536) := by
      have h1 := cqF_len (adjB L) 17 [] (allL L.length) []
      have hp : 2 ^ (allL L.length).length ≤ 2 ^ 16 := Nat.pow_le_pow_right (by omega) (by rw [allL_len]; exact hzz.2)
      exact Nat.le_trans h1 (Nat.le_trans hp (by decide))
    rw [decide_eq_true hG, netArr_yes hG]
    clear hG
    go_wp2_with (first | (refine wpList_store_net rfl 65 (.tmp 3) (.tmp 10) rfl w1.heap.size L.length (rowM L) rfl rfl Try.sizeNet 0 (fun _ => 0) hnb ?_; intro w3 hp; have HNet := Lib.hid (hp.net.congr rfl HRM.out); have HB3 : Hid (Below w.heap.size w w3) := (HB1.out.alloc hz _).trans (hp.below.mono hz); clear hp) | (go_at_call 78; refine (cliques_any _ _).mono ?_; rintro e w' ⟨rfl, rfl⟩))
    have hz3 : w.heap.size ≤ w3.heap.size := HB3.out.size
    obtain ⟨w5, hw5⟩ : ∃ w5, ((w3.alloc (.cells #[] 31)).alloc (.cells #[.slice (some ⟨w3.heap.size, 0, none⟩) 0 0] 27)).alloc (.cells #[.pointer (some ⟨w1.heap.size, 0, none⟩)] 102) = w5 := ⟨_, rfl⟩
    have hb5 : Below w3.heap.size w3 w5 := by rw [← hw5]; exact (((Below.refl _ _).alloc (Nat.le_refl _) _).alloc (by simp) _).alloc (by simp; omega) _
    have hs5 : w5.heap.size = w3.heap.size + 3 := by rw [← hw5]; simp
    have hbx5 : w5.heap[w3.heap.size + 1]? = some (.cells #[.slice (some ⟨w3.heap.size, 0, none⟩) 0 0] 27 (0, 0)) := by
      rw [← hw5]
      have h1 := World.alloc_heap_new (w3.alloc (.cells #[] 31)) (.cells #[.slice (some ⟨w3.heap.size, 0, none⟩) 0 0] 27)
      rw [World.size_alloc] at h1
      exact (Below.heap_alloc _ _ _ (by simp)).trans h1
    have hpt5 : w5.heap[w3.heap.size + 1 + 1]? = some (.cells #[.pointer (some ⟨w1.heap.size, 0, none⟩)] 102 (0, 0)) := by
      rw [← hw5]
      have h1 := World.alloc_heap_new ((w3.alloc (.cells #[] 31)).alloc (.cells #[.slice (some ⟨w3.heap.size, 0, none⟩) 0 0] 27)) (.cells #[.pointer (some ⟨w1.heap.size, 0, none⟩)] 102)
      simpa using h1
    have hog5 : OwnGrid 2 31 w5 w3.heap.size (.slice (some ⟨w3.heap.size, 0, none⟩) 0 0) [] := by
      have h1 : OwnGrid 2 31 (w3.alloc (.cells #[] 31)) w3.heap.size (.slice (some ⟨w3.heap.size, 0, none⟩) 0 0) [] :=
        ⟨fun _ => undef, by simp, Or.inr ⟨w3.heap.size, 0, #[], rfl, Nat.le_refl _, heap_alloc_new w3 _, Nat.zero_le _, Nat.zero_le _, rfl, fun i hi => absurd hi (by simp)⟩, fun i hi => absurd hi (by simp), fun i j k _ hj => absurd hj (by simp)⟩
      refine h1.keep ?_
      rw [← hw5]
      exact ((Below.refl _ _).alloc (Nat.le_refl _) _).alloc (by simp) _
    have HSQ := Lib.hid (cliques1_seq 8 (w3.heap.size + 2) w1.heap.size L.length (adjB L) w5 HREL.out hzz hpt5 (HNet.out.keep hb5))
    have H0 : Hid (CqI w (w3.heap.size + 1) w3.heap.size [] w5) := ⟨⟨_, hbx5, hog5⟩, HB3.out.trans (hb5.mono hz3)⟩
    simp only [Nat.add_assoc, Nat.reduceAdd] at *
    rw [hw5]
    clear hw5 hb5 hbx5 hpt5 hog5 HNet HB3 HB1 hnb
    refine (wpIn_wide (n := 9)).1 ?_
    refine wpIn_rangeFunc_ty rfl (by omega) (gf := 118) (lb := #[.pointer (some ⟨w3.heap.size + 2, 0, none⟩)]) rfl trivial (enters_of Try.func118 (by kernel_rfl) rfl)
      HSQ.out (fun _ => rfl)
      (fun pre W => CqI w (w3.heap.size + 1) w3.heap.size pre W)
      (fun s A C c hs hc ht hi => hs.iter (by omega) hc ht hi)
      H0.out
      ?a1 ?assign ?body ?done
    case assign =>
      intro l x W K hK
      simp only [encC]
      gi_wp2
      exact hK
    case body =>
      rintro l pre x W ⟨⟨val, hbx, hog⟩, hb⟩ hpx
      have HXL : Hid (listM (mkB x) = x) := mkB_list hzz.2 (HST.out x (hpx.subset (List.mem_append_right _ List.mem_cons_self)))
      have hlen : pre.length ≤ 65536 := by
        have h1 := hpx.length_le
        rw [List.length_append, List.length_singleton] at h1
        have := HLN.out
        omega
      have hbc : W.cell? ⟨w3.heap.size + 1, 0, none⟩ = some val := by rw [cell_of_row W _ 0 _ _ _ hbx]; rfl
      have hbf : W.frozen? ⟨w3.heap.size + 1, 0, none⟩ = false := frozen_of_row W _ 0 _ _ hbx
      obtain ⟨R, hR, hRr, hRd⟩ := hog.owns
      have HR := Lib.hid hR
      have HRr := Lib.hid hRr
      have HRd := Lib.hid hRd
      have HBX := Lib.hid hbx
      have HB := Lib.hid hb
      clear hR hRr hRd hog hb hpx
      have hmix : Try.prog.follows .mixedOrders = true := by kernel_rfl
      gi_wp2_with fail
      refine wpIn_region_any hmix ?_
      refine anyIn_twoC 0 1 (by kernel_rfl) ?o0 ?o1
      case' o1 =>
        refine opIn_atC rfl rfl ?_
        simp [go_sem, Oper.wpIn, Oper.about, Oper.uponIn]
        refine anyIn_twoC 0 2 (by kernel_rfl) ?o2 ?o3
      case' o3 =>
        refine opIn_atC rfl rfl ?_
        simp [go_sem, Oper.wpIn, Oper.about, Oper.uponIn]
        refine ⟨trivial, ?_⟩
        refine (CallsIn.inRound l (callsIn_wide.2 (list_any _ _ (mkB_lt x)))).mono ?_
        rintro e w7 ⟨n7, a7, c7, rfl, ho7, hb7⟩
        have hbc7 := cell_keep hb7 (cell_keep (Below.refl _ _).drew hbc)
        refine anyIn_twoC 0 3 (by kernel_rfl) ?o4 ?o5
      case' o0 =>
        refine opIn_atC rfl rfl ?_
        simp [go_sem, Oper.wpIn, Oper.about, Oper.uponIn, hbc]
        refine anyIn_oneC 1 (by kernel_rfl) ?_
        refine opIn_atC rfl rfl ?_
        simp [go_sem, Oper.wpIn, Oper.about, Oper.uponIn]
        refine anyIn_oneC 2 (by kernel_rfl) ?_
        refine opIn_atC rfl rfl ?_
        simp [go_sem, Oper.wpIn, Oper.about, Oper.uponIn]
        refine ⟨trivial, ?_⟩
        refine (CallsIn.inRound l (callsIn_wide.2 (list_any _ _ (mkB_lt x)))).mono ?_
        rintro e w7 ⟨n7, a7, c7, rfl, ho7, hb7⟩
        have hbc7 := cell_keep hb7 (cell_keep (Below.refl _ _).drew hbc)
        refine anyIn_oneC 3 (by kernel_rfl) ?_
        refine opIn_atC rfl rfl ?_
        simp [go_sem, Oper.wpIn, Oper.about, Oper.uponIn]
      case' o2 =>
        refine opIn_atC rfl rfl ?_
        simp [go_sem, Oper.wpIn, Oper.about, Oper.uponIn, hbc]
        refine anyIn_oneC 2 (by kernel_rfl) ?_
        refine opIn_atC rfl rfl ?_
        simp [go_sem, Oper.wpIn, Oper.about, Oper.uponIn]
        refine ⟨trivial, ?_⟩
        refine (CallsIn.inRound l (callsIn_wide.2 (list_any _ _ (mkB_lt x)))).mono ?_
        rintro e w7 ⟨n7, a7, c7, rfl, ho7, hb7⟩
        have hbc7 := cell_keep hb7 (cell_keep (Below.refl _ _).drew hbc)
        refine anyIn_oneC 3 (by kernel_rfl) ?_
        refine opIn_atC rfl rfl ?_
        simp [go_sem, Oper.wpIn, Oper.about, Oper.uponIn]
      case' o4 =>
        refine opIn_atC rfl rfl ?_
        simp [go_sem, Oper.wpIn, Oper.about, Oper.uponIn, hbc7]
        refine anyIn_oneC 3 (by kernel_rfl) ?_
        refine opIn_atC rfl rfl ?_
        simp [go_sem, Oper.wpIn, Oper.about, Oper.uponIn]
      case' o5 =>
        refine opIn_atC rfl rfl ?_
        simp [go_sem, Oper.wpIn, Oper.about, Oper.uponIn]
        have hbc8 := cell_keep (w' := w7.alloc (.cells #[.slice a7 n7 c7] 31)) ((Below.refl _ _).alloc (Nat.le_refl _) _) hbc7
        refine anyIn_oneC 0 (by kernel_rfl) ?_
        refine opIn_atC rfl rfl ?_
        simp [go_sem, Oper.wpIn, Oper.about, Oper.uponIn, hbc8]
      all_goals (
        have hb7W : Below W.heap.size W w7 := (Below.refl _ _).drew.trans hb7
        have ho7 : OwnRow 2 w7 W.heap.size (.slice a7 n7 c7) x := by have h := ho7; rw [HXL.out] at h; exact h
        have hbA : Below w7.heap.size w7 (w7.alloc (.cells #[.slice a7 n7 c7] 31)) := (Below.refl _ _).alloc (Nat.le_refl _) _
        have hbWA : Below W.heap.size W (w7.alloc (.cells #[.slice a7 n7 c7] 31)) := hb7W.trans (hbA.mono hb7W.size)
        have hzW : w3.heap.size ≤ W.heap.size := by have := (Array.getElem?_eq_some_iff.1 HBX.out).1; omega
        have hzA := hbWA.size
        refine anyIn_oneC 4 (by kernel_rfl) ?_
        refine opIn_atC rfl rfl ?_
        refine wpIn_append_ownC _ (.tmp 17) (.tmp 20) 27 rfl w3.heap.size 31 j0 (.slice none 0 0) 1 24 Try.underlying27 hj hy0 hy1 hy2 rfl (by decide) val _ _ rfl (ownsRow_keep HR.out hbWA) ⟨w7.heap.size, 0, none⟩ 1 1 [.slice a7 n7 c7] rfl rfl ?_ ?_ ?_ ?_ ?_ ?_
        · intro j u hj
          match j, hj with
          | 0, hj => simp at hj; subst hj; simp [Addr.add]
        · intro u hu; simp at hu; subst hu; rfl
        · unfold maxLen; omega
        · omega
        · omega
        intro v8 w8 hown8 hgrow8
        have hog8 := OwnGrid.snoc (T := 2) (T1 := 31) (by decide) hbWA hzW (ho7.keep hbA) rfl (by unfold maxLen; omega) R HR.out HRr.out HRd.out hown8 hgrow8
        have hbox8 : w8.heap[w3.heap.size + 1]? = some (.cells #[val] 27 (0, 0)) := by
          rw [hgrow8.block _ (by have := (Array.getElem?_eq_some_iff.1 HBX.out).1; omega) ?_]
          · exact (hbWA.block _ (Array.getElem?_eq_some_iff.1 HBX.out).1).trans HBX.out
          · intro e
            rcases HR.out.2 with ⟨e3, _⟩ | ⟨g', cap', cur', e3, _, hh', _⟩
            · rw [e3] at e; simp [Value.ownBlock] at e
            · rw [e3] at e
              simp [Value.ownBlock] at e
              subst e
              rw [HBX.out] at hh'
              simp at hh'
        obtain ⟨a8, c8, e8⟩ := hog8.grid.slice
        subst e8
        have hbc8' : w8.cell? ⟨w3.heap.size + 1, 0, none⟩ = some val := by rw [cell_of_row w8 _ 0 _ _ _ hbox8]; rfl
        have hbf8 : w8.frozen? ⟨w3.heap.size + 1, 0, none⟩ = false := frozen_of_row w8 _ 0 _ _ hbox8
        have hne : ∀ k o, W.heap[k]? = some o → (∀ cs fr, o ≠ Obj.cells cs 31 fr) → some k ≠ val.ownBlock := fun k o hk hU e => by
          rcases HR.out.2 with ⟨e3, _⟩ | ⟨g', cap', cur', e3, _, hh', _⟩
          · rw [e3] at e; simp [Value.ownBlock] at e
          · rw [e3] at e
            simp [Value.ownBlock] at e
            subst e
            rw [hk] at hh'
            exact hU _ _ (Option.some.inj hh')
        have hge : ∀ k, val.ownBlock = some k → w3.heap.size ≤ k := fun k hk => (HR.out.lt k hk).1
        have hall : ∀ k o, W.heap[k]? = some o → (∀ cs fr, o ≠ Obj.cells cs 31 fr) → k ≠ w3.heap.size + 1 → (w8.setCell ⟨w3.heap.size + 1, 0, none⟩ (.slice a8 (pre ++ [x]).length c8)).heap[k]? = some o := fun k o hk hU hkx => by
          rw [heap_setCell_other _ _ _ _ (by simpa using hkx)]
          have hl := (Array.getElem?_eq_some_iff.1 hk).1
          exact (hgrow8.block k (by omega) (hne k o hk hU)).trans ((hbWA.block k hl).trans hk)
        have HKT : Hid (KeepsT W (w8.setCell ⟨w3.heap.size + 1, 0, none⟩ (.slice a8 (pre ++ [x]).length c8))) := fun k cs U fr hk h1 h2 =>
          hall k _ hk (fun cs' fr' e => by simp at e; exact h1 e.2.1) (fun e => by subst e; have h3 := HBX.out; rw [hk] at h3; simp at h3; exact h2 h3.2.1)
        have HKN : Hid (KeepsN W (w8.setCell ⟨w3.heap.size + 1, 0, none⟩ (.slice a8 (pre ++ [x]).length c8))) := fun k o hk h1 =>
          hall k _ hk (fun cs' fr' => h1 _ _ _) (fun e => by subst e; have h3 := HBX.out; rw [hk] at h3; exact h1 _ _ _ (Option.some.inj h3))
        have HPI : Hid (CqI w (w3.heap.size + 1) w3.heap.size (pre ++ [x]) (w8.setCell ⟨w3.heap.size + 1, 0, none⟩ (.slice a8 (pre ++ [x]).length c8))) := by
          refine ⟨⟨_, heap_setCell_same w8 _ 0 _ _ _ hbox8, ?_⟩, ?_⟩
          · refine hog8.keptC (fun k cs U fr hU hk => ?_)
            rw [heap_setCell_other _ _ _ _ ?_]
            · exact hk
            · intro e
              simp at e
              subst e
              rw [hbox8] at hk
              simp at hk
              rcases hU with h | h <;> (rw [h] at hk; exact absurd hk.2.1 (by decide))
          · exact ((HB.out.trans (hbWA.mono HB.out.size)).grown hgrow8 (by have := HB.out.size; omega) (fun j hj => by have := hge j hj; omega)).setCell (p := ⟨w3.heap.size + 1, 0, none⟩) (by simp; omega) _
        clear hog8 hgrow8 hown8 hbox8 hne hge ho7 hb7 hb7W hbA hbWA hall
        refine anyIn_oneC 5 (by kernel_rfl) ?_
        refine opIn_atC rfl rfl ?_
        simp [go_sem, Oper.wpIn, Oper.about, Oper.uponIn, hbc8', hbf8]
        refine ⟨by kernel_rfl, ?_⟩
        have hlen8 : (pre ++ [x]).length = pre.length + 1 := by simp
        rw [hlen8] at HKT HKN HPI
        exact ⟨HKT.out, HKN.out, HPI.out⟩)
    case done =>
      rintro D W ⟨⟨val, hbx, hog⟩, hb⟩ hD hK
      obtain ⟨a8, c8, e8⟩ := hog.grid.slice
      subst e8
      have hbc : W.cell? ⟨w3.heap.size + 1, 0, none⟩ = some (.slice a8 (cqF (adjB L) 17 [] (allL L.length) []).length c8) := by rw [cell_of_row W _ 0 _ _ _ hbx]; rfl
      have HK := Lib.hid hK
      have hDW : D < W.heap.size := (Array.getElem?_eq_some_iff.1 hK).1
      have HP : Hid (GaveGrid w (cqlL L) (.returned (.slice a8 (cqF (adjB L) 17 [] (allL L.length) []).length c8)) (W.putObj D (.deferred none))) := by
        rw [HE.out]
        refine ⟨_, _, _, rfl, (hog.mono hz3).keptC (fun k cs U fr _ h => ?_), hb.trans (below_put W D _ (by omega) hDW)⟩
        rw [World.putObj_heap_other (fun e => ?_)]
        · exact h
        · subst e; rw [hK] at h; cases h
      clear hbx hog hb hK
      go_wp2
      refine ⟨by simp, .inl ⟨_, _, rfl, run_takeDeferred HK.out, ?_⟩⟩
      exact ⟨_, results_tmp rfl _ _ _, by simpa using HP.out⟩
  · have HE : Hid (cqlL L = []) := if_neg hG
    rw [decide_eq_false hG, netArr_no hG]
    clear hG
    go_wp2_with (refine wpList_store_net rfl 65 (.tmp 3) (.tmp 10) rfl w1.heap.size 0 (fun _ => 0) rfl rfl Try.sizeNet 0 (fun _ => 0) hnb ?_; intro w3 hp; have HB3 : Hid (Below w.heap.size w w3) := (HB1.out.alloc hz _).trans (hp.below.mono hz); clear hp)
    exact ⟨_, results_tmp rfl _ _ _, _, _, _, rfl, by rw [HE.out]; exact ⟨fun _ => undef, by simp, .inl ⟨rfl, rfl⟩, fun i hi => absurd hi (by simp), fun i j k _ hj => absurd hj (by simp)⟩, HB3.out⟩

end Go.Proofs.Ytmfolclpddoplaa
