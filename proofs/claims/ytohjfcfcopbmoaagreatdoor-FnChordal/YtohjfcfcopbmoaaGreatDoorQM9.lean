/- The texts M9, N1, U1, joined. -/
import Derived.Test.YtohjfcfcopbmoaaGreatDoorQM1
import Derived.Deep.AppendLies
import Derived.Deep.RegionLaw
import Derived.Test.YtohjfcfcopbmoaaGreatDoorQK2
import Derived.Test.YtohjfcfcopbmoaaGreatDoorQF6
import Derived.Test.YtohjfcfcopbmoaaGreatDoorQE1
import Derived.Test.YtohjfcfcopbmoaaGreatDoorQF4

/- Walks: the model's copy of a graph. -/
namespace Go.Proofs.YtohjfcfcopbmoaaGreatDoor
open Go.RowKit

/-- The boxes of the model's copy at work. -/
structure CopyWork (w0 : World) (v : Value) (L : List (List Int)) (k : Nat) (w : World) : Prop where
  arg : BoxAt w w0.heap.size v
  res : BoxAt w (w0.heap.size + 1) (.slice none 0 0)
  out : ∃ a c, BoxAt w (w0.heap.size + 1 + 1) (.slice a k c) ∧ OwnGrid 2 33 w (w0.heap.size + 1 + 1 + 1) (.slice a k c) (L.take k)
  bel : Below w0.heap.size w0 w
  size : w0.heap.size + 1 + 1 + 1 ≤ w.heap.size

theorem take_snocR {L : List (List Int)} {k : Nat} (h : k < L.length) : L.take (k + 1) = L.take k ++ [nthR L k] := by
  rw [List.take_succ_eq_append_getElem h, nthR_eq h]

/-- A row laid, its box laid, the grid grown by it, put back: the copy has one row more. -/
theorem CopyWork.grow {w0 w w2 w7 : World} {v : Value} {L : List (List Int)} {k g cap : Nat} {a : Option Addr} {c : Nat} {rv : Value} {R : Nat → Value} (h : CopyWork w0 v L k w) (hk : k < L.length) (hl : L.length ≤ 1048576) (hb : Below w.heap.size w w2) (hr : OwnRow 2 w2 w.heap.size rv (nthR L k))
    (hbx : BoxAt w (w0.heap.size + 1 + 1) (.slice a k c)) (hR : w.ownsRow (w0.heap.size + 1 + 1 + 1) 33 1 (.slice a k c) k ((List.range k).map R)) (hRr : ∀ i, i < k → OwnRow 2 w (w0.heap.size + 1 + 1 + 1) (R i) (nthR (L.take k) i)) (hRd : ∀ i j q, i < j → j < k → (R i).ownBlock = some q → (R j).ownBlock ≠ some q)
    (hown : w7.ownsRow (w0.heap.size + 1 + 1 + 1) 33 1 (.slice (some ⟨g, 0, none⟩) (k + 1) cap) (k + 1) ((List.range k).map R ++ [rv])) (hgrow : (w2.alloc (.cells #[rv] 33)).grownBy w7 (Value.slice a k c).ownBlock) :
    BoxAt w7 (w0.heap.size + 1 + 1) (.slice a k c) ∧ CopyWork w0 v L (k + 1) (w7.setCell ⟨w0.heap.size + 1 + 1, 0, none⟩ (.slice (some ⟨g, 0, none⟩) (k + 1) cap)) := by
  have hsz := h.size
  have htl : (L.take k).length = k := by rw [List.length_take]; omega
  have hW : Below w.heap.size w (w2.alloc (.cells #[rv] 33)) := hb.alloc hb.size _
  have hbw : Below (w0.heap.size + 1 + 1 + 1) w w7 := (hW.mono hsz).grown hgrow (by rw [size_alloc1]; have := hb.size; omega) (fun j hj => (hR.lt j hj).1)
  have hog : OwnGrid 2 33 w7 (w0.heap.size + 1 + 1 + 1) (.slice (some ⟨g, 0, none⟩) (k + 1) cap) (L.take k ++ [nthR L k]) := by
    refine OwnGrid.snoc (w0 := w) (w := w2.alloc (.cells #[rv] 33)) (rv := rv) (n := k) (v := .slice a k c) (by decide) hW hsz ?_ htl.symm (by rw [htl]; unfold maxLen; omega) R (by rw [htl]; exact hR) (by rw [htl]; exact hRr) (by rw [htl]; exact hRd) (by rw [htl]; exact hown) hgrow
    exact hr.keep ((Below.refl _ _).alloc (Nat.le_refl _) _)
  rw [← take_snocR hk] at hog
  have hbx7 := hbx.keepB hbw (by omega)
  exact ⟨hbx7, (h.arg.keepB hbw (by omega)).setOther (by simp; omega) _, (h.res.keepB hbw (by omega)).setOther (by simp) _, ⟨_, cap, hbx7.set _, hog.setBelow (by simp) _⟩, (h.bel.trans (hbw.mono (by omega))).setCell (by simp; omega) _, by rw [size_setCell1]; exact Nat.le_trans hsz hbw.size⟩

set_option maxHeartbeats 3200000 in
set_option maxRecDepth 100000 in
theorem l1CopyGraph_any (v : Value) (L : List (List Int)) (w : World) (h : GridAt w v L) (hs : Small L) : Calls Tryz.prog 151 #[.agg #[v]] w (GaveGraph w L) := by
  obtain ⟨i0, hi, hz0, hz1, hz2⟩ := info_parts Tryz.infoR
  obtain ⟨a0, c0, rfl⟩ := h.slice
  have hl := hs.1
  have HS := Lib.hid hs.2
  have HG := Lib.hid h
  have T0 : Hid (CopyWork w (.slice a0 L.length c0) L 0 (((w.alloc (.cells #[.slice a0 L.length c0] 26)).alloc (.cells #[.slice none 0 0] 26)).alloc (.cells #[.slice none 0 0] 26))) := by
    refine ⟨⟨by go_simp, by go_simp⟩, ⟨by go_simp, by go_simp⟩, ⟨none, 0, ⟨by go_simp, by go_simp⟩, own_nil _ _⟩, (((Below.refl _ _).alloc (Nat.le_refl _) _).alloc (by simp) _).alloc (by simp; omega) _, by simp⟩
  clear h hs
  go_enter Tryz.func151, Tryz.ntmps151
  go_wp2_with fail
  go_loopw [4] (fun i wr => ∃ k : Nat, k ≤ L.length ∧ i = .int .i64 k ∧ CopyWork w (.slice a0 L.length c0) L k wr) (fun i _ => L.length - (intOf i).toNat)
  case atStart => exact ⟨0, Nat.zero_le _, rfl, T0.out⟩
  case round =>
    obtain ⟨k, hk, rfl, hw⟩ := hrel
    have HW := Lib.hid hw
    have kb := hw.arg.1
    by_cases hlt : k < L.length
    · obtain ⟨b, o, c', A, C, e2, l1, l2, hc⟩ := HG.out.pos (by omega)
      simp only [Value.slice.injEq, true_and] at e2
      obtain ⟨rfl, rfl⟩ := e2
      have hck := cell_keep hw.bel (hc k hlt).1
      have HRK := Lib.hid ((hc k hlt).2.keep hw.bel)
      obtain ⟨ag, cg, hbx, hog⟩ := hw.out
      obtain ⟨R, hR, hRr, hRd⟩ := hog.owns
      have htl : (L.take k).length = k := by rw [List.length_take]; omega
      rw [htl] at hR hRr hRd
      have kt := hbx.1
      have ft := hbx.2
      have HBX := Lib.hid hbx
      have HR := Lib.hid hR
      have HRr := Lib.hid hRr
      have HRd := Lib.hid hRd
      have hzr := hw.size
      have hrl := HS.out k hlt
      have HC3 : Hid (k + 1 ≤ maxLen) := by show _ ≤ _; unfold maxLen; omega
      have HC4 : Hid ((k + 1) * 24 ≤ 140737488355328) := by show _ ≤ _; omega
      clear hc hw hbx hog hR hRr hRd htl
      go_wp2_with fail
      go_region_law (first
        | (go_simp; go_at_call 219; refine (l1Copy_any _ (nthR L k) _ (HRK.out.keep (Below.refl _ _).drew) hrl).mono ?_; rintro e w2 ⟨n2, a2, c2, rfl, ho2, hb2⟩; have HB2 : Hid (Below wr.heap.size wr w2) := (Below.refl _ _).drew.trans hb2; have HO2 : Hid (OwnRow 2 w2 wr.heap.size (.slice a2 n2 c2) (nthR L k)) := ho2; have kt2 := cell_keep HB2.out kt; have kt2a : (w2.alloc (.cells #[.slice a2 n2 c2] 33)).cell? ⟨w.heap.size + 1 + 1, 0, none⟩ = some (.slice ag k cg) := cell_keep ((Below.refl _ _).alloc (Nat.le_refl _) _) kt2; have HOR2 : Hid (w2.ownsRow (w.heap.size + 1 + 1 + 1) 33 1 (.slice ag k cg) k ((List.range k).map R)) := (⟨HR.out.1, HR.out.2.imp (fun h => h) (fun ⟨g, cap, cur, e, hgB, hh, r⟩ => ⟨g, cap, cur, e, hgB, by rw [HB2.out.block g (Array.getElem?_eq_some_iff.1 hh).1]; exact hh, r⟩)⟩); have HZ2 : Hid (w.heap.size + 1 + 1 + 1 ≤ (w2.alloc (.cells #[.slice a2 n2 c2] 33)).heap.size) := (by show _ ≤ _; rw [size_alloc1]; have := HB2.out.size; omega); clear ho2 hb2)
        | (refine step_append_lies _ (by rfl) (.tmp 14) (.tmp 21) 24 (by rfl) (w.heap.size + 1 + 1 + 1) 33 i0 (.slice none 0 0) 1 24 Tryz.underlying24 hi hz0 hz1 hz2 rfl (by omega) (.slice ag k cg) k ((List.range k).map R) (by rfl) (HOR2.out.alloc _) ⟨w2.heap.size, 0, none⟩ 1 1 [.slice a2 n2 c2] (by rfl) rfl (World.news_of_block (heap_alloc_new _ _)) (fun u hu => by simp at hu; subst hu; rfl) Nat.one_pos HC3.out HC4.out HZ2.out (w2.heap.size + 1) (size_alloc1 _ _) ?_; intro g7 cap7 w7 hown7 hgrow7 hat7 hlt7; obtain ⟨hbx7, hw7⟩ := HW.out.grow hlt hl HB2.out HO2.out HBX.out HR.out HRr.out HRd.out hown7 hgrow7; have kt7 := hbx7.1; have ft7 := hbx7.2; have HW7 := Lib.hid hw7; clear hown7 hgrow7 hat7 hlt7 hbx7 hw7))
      all_goals (
        clear kt7 ft7 kt2 kt2a kt ft kb hck
        go_wp2
        go_roundw
        case rel => exact ⟨k + 1, by omega, by go_num, HW7.out⟩
        case measure => simp [intOf]; omega)
    · obtain rfl : k = L.length := by omega
      obtain ⟨ag, cg, hbx, hog⟩ := hw.out
      have kt := hbx.1
      have kr := hw.res.1
      have kf := hw.res.2
      rw [List.take_length] at hog
      have HOG := Lib.hid hog
      have HRS := Lib.hid hw.res
      clear hbx hog hw
      go_wp2
      have q0 : (wr.setCell ⟨w.heap.size + 1, 0, none⟩ (.slice ag L.length cg)).cell? ⟨w.heap.size + 1, 0, none⟩ = some (.slice ag L.length cg) := cell_set_same _ HRS.out.1
      refine bodyPost_ret (v := .agg #[.slice ag L.length cg]) (by simp [results, Tryz.results151, go_sem, q0]) rfl ⟨L.length, ag, cg, rfl, ?_, ?_⟩
      · exact (HOG.out.setBelow (by simp) _).mono (by omega)
      · exact HW.out.bel.setCell (by simp) _

end Go.Proofs.YtohjfcfcopbmoaaGreatDoor

/- Walks: an edge contracted. -/
namespace Go.Proofs.YtohjfcfcopbmoaaGreatDoor
open Go.RowKit

theorem hasB_snoc (xs : List Int) (y z : Int) : hasB (xs ++ [y]) z = (hasB xs z || z == y) := by
  rw [Bool.eq_iff_iff, hasB_mem, Bool.or_eq_true, hasB_mem, beq_iff_eq]
  simp
theorem adjB_adjL {n : Nat} {A : Nat → Nat → Bool} (hG : GraphP (adjL n A)) {i j : Nat} (hi : i < n) (hj : j < 16) : adjB (adjL n A) i j = A i j := by
  rw [← adjB_has hG (by rw [adjL_len]; exact hi) hj, adjL_nth _ hi, Bool.eq_iff_iff, hasB_mem, listM_mem]
  constructor
  · rintro ⟨q, h1, h2, h3⟩
    have : q = j := by omega
    subst this
    rw [pm_bit, Bool.and_eq_true] at h2
    exact h2.2
  · intro h
    exact ⟨j, hj, by rw [pm_bit, h]; simp [hj], rfl⟩
theorem OwnRow.put {T T2 : TypeId} {w w' : World} {B g n : Nat} {M : Nat → Nat} {v : Value} {xs : List Int} (h : OwnRow T w B v xs) (hp : NetPut T2 w w' g n M) (hg : g < B) : OwnRow T w' B v xs := by
  obtain ⟨h1, h2, h3⟩ := h
  refine ⟨h1, h2, ?_⟩
  rcases h3 with h3 | ⟨g', cap, cur, e, hg', hh, r⟩
  · exact Or.inl h3
  · exact Or.inr ⟨g', cap, cur, e, hg', by rw [hp.other g' (by omega)]; exact hh, r⟩
end Go.Proofs.YtohjfcfcopbmoaaGreatDoor

/- Plain facts: a graph under other names has as many edges. -/
namespace Go.Proofs.YtohjfcfcopbmoaaGreatDoor
open Go.RowKit

/-- The number of edges by who is near whom. -/
theorem many_adj {L : List (List Int)} (hG : GraphP L) : 2 * manyN L = ((sumTo (fun i => sumTo (fun j => if adjB L i j then 1 else 0) L.length) L.length : Nat) : Int) := by
  have hz := hG.1
  have h1 := bits_edges hG
  have h2 := sumTo_split (fun i => bitsTo (rowM L i) 16) L.length (16 - L.length) (fun i h1 _ => by
    have : rowM L i = 0 := by unfold rowM; exact if_neg (by omega)
    show bitsTo (rowM L i) 16 = 0
    rw [this, bitsTo_zero])
  rw [show L.length + (16 - L.length) = 16 from by omega] at h2
  rw [h2] at h1
  have h3 : sumTo (fun i => bitsTo (rowM L i) 16) L.length = sumTo (fun i => sumTo (fun j => if adjB L i j then 1 else 0) L.length) L.length := sumTo_congr (fun i hi => by
    rw [bitsTo_sum]
    have := sumTo_split (fun j => if (rowM L i).testBit j then 1 else 0) L.length (16 - L.length) (fun j hj _ => by
      have : (rowM L i).testBit j = false := by
        show adjB L i j = false
        cases hb : adjB L i j with
        | false => rfl
        | true => exact absurd (adjB_range hG hb).2 (by omega)
      rw [this]; rfl)
    rw [show L.length + (16 - L.length) = 16 from by omega] at this
    exact this)
  rw [h3] at h1
  have e1 : manyN L = ((edgesTo L L.length).length : Int) := by unfold manyN; rw [edgesL, if_pos hG]
  rw [e1, h1]
  omega

/-- A sum over a list of numbers. -/
def sumL (f : Int → Nat) (xs : List Int) : Nat := (xs.map f).sum
theorem sumL_to (f : Int → Nat) (xs : List Int) : sumL f xs = sumTo (fun i => f (nth xs i)) xs.length := by
  have key : ∀ k, k ≤ xs.length → sumL f (xs.take k) = sumTo (fun i => f (nth xs i)) k := by
    intro k
    induction k with
    | zero => intro _; simp [sumL, sumTo]
    | succ k ih =>
      intro hk
      rw [take_snoc (by omega)]
      simp only [sumTo, ← ih (by omega)]
      simp [sumL]
  have := key xs.length (Nat.le_refl _)
  rwa [List.take_length] at this
theorem ord_perm {xs : List Int} {n : Nat} (h : OrdP xs n) : xs.Perm (allL n) := by
  have hnd : xs.Nodup := by
    rw [List.nodup_iff_pairwise_ne, List.pairwise_iff_getElem]
    intro i j hi hj hij e
    have hh := (h.2 j hj).2
    have : hasB (xs.take j) (nth xs j) = true := (hasB_take (Nat.le_of_lt hj) _).2 ⟨i, hij, by rw [nth_eq hi, nth_eq hj]; exact e⟩
    rw [this] at hh
    cases hh
  have hnd2 : (allL n).Nodup := by
    rw [List.nodup_iff_pairwise_ne]
    exact (allL_pair n).imp (fun h => by omega)
  have hsub : ∀ z, z ∈ xs → z ∈ allL n := by
    intro z hz
    obtain ⟨i, hi, rfl⟩ := List.mem_iff_getElem.1 hz
    have := (h.2 i hi).1
    rw [nth_eq hi] at this
    have h2 : 0 ≤ xs[i] ∧ xs[i] ≤ (n : Int) - 1 := by simpa [inB] using this
    exact (allL_mem _ _).2 ⟨xs[i].toNat, by omega, by omega⟩
  rw [List.perm_ext_iff_of_nodup hnd hnd2]
  intro z
  refine ⟨hsub z, fun hz => ?_⟩
  rcases Classical.em (z ∈ xs) with h1 | h1
  · exact h1
  · exfalso
    have h3 : (z :: xs).Nodup := List.nodup_cons.2 ⟨h1, hnd⟩
    have h4 : (z :: xs) ⊆ allL n := by
      intro y hy
      rcases List.mem_cons.1 hy with rfl | hy
      · exact hz
      · exact hsub y hy
    have := h3.length_le_of_subset h4
    rw [List.length_cons, allL_len, h.1] at this
    omega
end Go.Proofs.YtohjfcfcopbmoaaGreatDoor
