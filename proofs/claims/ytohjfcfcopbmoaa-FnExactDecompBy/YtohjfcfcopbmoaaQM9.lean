/- The texts M9, N1, joined. -/
import Derived.Test.YtohjfcfcopbmoaaQM1
import Derived.Deep.AppendLies
import Derived.Deep.RegionLaw
import Derived.Test.YtohjfcfcopbmoaaM7

/- Walks: the model's copy of a graph. -/
namespace Go.Proofs.Ytohjfcfcopbmoaa
open Go.RowKit

/-- The boxes of the model's copy at work. -/
structure CopyWork (w0 : World) (v : Value) (L : List (List Int)) (k : Nat) (w : World) : Prop where
  arg : BoxAt w w0.heap.size v
  res : BoxAt w (w0.heap.size + 1) (.slice none 0 0)
  out : ∃ a c, BoxAt w (w0.heap.size + 1 + 1) (.slice a k c) ∧ OwnGrid 2 33 w (w0.heap.size + 1 + 1 + 1) (.slice a k c) (L.take k)
  bel : Below w0.heap.size w0 w
  size : w0.heap.size + 1 + 1 + 1 ≤ w.heap.size

theorem take_snocR {L : List (List Int)} {k : Nat} (h : k < L.length) : L.take (k + 1) = L.take k ++ [nthR L k] := by
  rw [List.take_succ_eq_append_getElem h, nthR_eq h]

/-- A row laid, its box laid, the grid grown by it, put back: the copy has one row more. -/
theorem CopyWork.grow {w0 w w2 w7 : World} {v : Value} {L : List (List Int)} {k g cap : Nat} {a : Option Addr} {c : Nat} {rv : Value} {R : Nat → Value} (h : CopyWork w0 v L k w) (hk : k < L.length) (hl : L.length ≤ 1048576) (hb : Below w.heap.size w w2) (hr : OwnRow 2 w2 w.heap.size rv (nthR L k))
    (hbx : BoxAt w (w0.heap.size + 1 + 1) (.slice a k c)) (hR : w.ownsRow (w0.heap.size + 1 + 1 + 1) 33 1 (.slice a k c) k ((List.range k).map R)) (hRr : ∀ i, i < k → OwnRow 2 w (w0.heap.size + 1 + 1 + 1) (R i) (nthR (L.take k) i)) (hRd : ∀ i j q, i < j → j < k → (R i).ownBlock = some q → (R j).ownBlock ≠ some q)
    (hown : w7.ownsRow (w0.heap.size + 1 + 1 + 1) 33 1 (.slice (some ⟨g, 0, none⟩) (k + 1) cap) (k + 1) ((List.range k).map R ++ [rv])) (hgrow : (w2.alloc (.cells #[rv] 33)).grownBy w7 (Value.slice a k c).ownBlock) :
    BoxAt w7 (w0.heap.size + 1 + 1) (.slice a k c) ∧ CopyWork w0 v L (k + 1) (w7.setCell ⟨w0.heap.size + 1 + 1, 0, none⟩ (.slice (some ⟨g, 0, none⟩) (k + 1) cap)) := by
  have hsz := h.size
  have htl : (L.take k).length = k := by rw [List.length_take]; omega
  have hW : Below w.heap.size w (w2.alloc (.cells #[rv] 33)) := hb.alloc hb.size _
  have hbw : Below (w0.heap.size + 1 + 1 + 1) w w7 := (hW.mono hsz).grown hgrow (by rw [size_alloc1]; have := hb.size; omega) (fun j hj => (hR.lt j hj).1)
  have hog : OwnGrid 2 33 w7 (w0.heap.size + 1 + 1 + 1) (.slice (some ⟨g, 0, none⟩) (k + 1) cap) (L.take k ++ [nthR L k]) := by
    refine OwnGrid.snoc (w0 := w) (w := w2.alloc (.cells #[rv] 33)) (rv := rv) (n := k) (v := .slice a k c) (by decide) hW hsz ?_ htl.symm (by rw [htl]; unfold maxLen; omega) R (by rw [htl]; exact hR) (by rw [htl]; exact hRr) (by rw [htl]; exact hRd) (by rw [htl]; exact hown) hgrow
    exact hr.keep ((Below.refl _ _).alloc (Nat.le_refl _) _)
  rw [← take_snocR hk] at hog
  have hbx7 := hbx.keepB hbw (by omega)
  exact ⟨hbx7, (h.arg.keepB hbw (by omega)).setOther (by simp; omega) _, (h.res.keepB hbw (by omega)).setOther (by simp) _, ⟨_, cap, hbx7.set _, hog.setBelow (by simp) _⟩, (h.bel.trans (hbw.mono (by omega))).setCell (by simp; omega) _, by rw [size_setCell1]; exact Nat.le_trans hsz hbw.size⟩

set_option maxHeartbeats 3200000 in
set_option maxRecDepth 100000 in
theorem l1CopyGraph_any (v : Value) (L : List (List Int)) (w : World) (h : GridAt w v L) (hs : Small L) : Calls Try.prog 71 #[.agg #[v]] w (GaveGraph w L) := by
  obtain ⟨i0, hi, hz0, hz1, hz2⟩ := info_parts Try.infoR
  obtain ⟨a0, c0, rfl⟩ := h.slice
  have hl := hs.1
  have HS := Lib.hid hs.2
  have HG := Lib.hid h
  have T0 : Hid (CopyWork w (.slice a0 L.length c0) L 0 (((w.alloc (.cells #[.slice a0 L.length c0] 37)).alloc (.cells #[.slice none 0 0] 37)).alloc (.cells #[.slice none 0 0] 37))) := by
    refine ⟨⟨by go_simp, by go_simp⟩, ⟨by go_simp, by go_simp⟩, ⟨none, 0, ⟨by go_simp, by go_simp⟩, own_nil _ _⟩, (((Below.refl _ _).alloc (Nat.le_refl _) _).alloc (by simp) _).alloc (by simp; omega) _, by simp⟩
  clear h hs
  go_enter Try.func71, Try.ntmps71
  go_wp2_with fail
  go_loopw [4] (fun i wr => ∃ k : Nat, k ≤ L.length ∧ i = .int .i64 k ∧ CopyWork w (.slice a0 L.length c0) L k wr) (fun i _ => L.length - (intOf i).toNat)
  case atStart => exact ⟨0, Nat.zero_le _, rfl, T0.out⟩
  case round =>
    obtain ⟨k, hk, rfl, hw⟩ := hrel
    have HW := Lib.hid hw
    have kb := hw.arg.1
    by_cases hlt : k < L.length
    · obtain ⟨b, o, c', A, C, e2, l1, l2, hc⟩ := HG.out.pos (by omega)
      simp only [Value.slice.injEq, true_and] at e2
      obtain ⟨rfl, rfl⟩ := e2
      have hck := cell_keep hw.bel (hc k hlt).1
      have HRK := Lib.hid ((hc k hlt).2.keep hw.bel)
      obtain ⟨ag, cg, hbx, hog⟩ := hw.out
      obtain ⟨R, hR, hRr, hRd⟩ := hog.owns
      have htl : (L.take k).length = k := by rw [List.length_take]; omega
      rw [htl] at hR hRr hRd
      have kt := hbx.1
      have ft := hbx.2
      have HBX := Lib.hid hbx
      have HR := Lib.hid hR
      have HRr := Lib.hid hRr
      have HRd := Lib.hid hRd
      have hzr := hw.size
      have hrl := HS.out k hlt
      have HC3 : Hid (k + 1 ≤ maxLen) := by show _ ≤ _; unfold maxLen; omega
      have HC4 : Hid ((k + 1) * 24 ≤ 140737488355328) := by show _ ≤ _; omega
      clear hc hw hbx hog hR hRr hRd htl
      go_wp2_with fail
      go_region_law (first
        | (go_simp; go_at_call 36; refine (l1Copy_any _ (nthR L k) _ (HRK.out.keep (Below.refl _ _).drew) hrl).mono ?_; rintro e w2 ⟨n2, a2, c2, rfl, ho2, hb2⟩; have HB2 : Hid (Below wr.heap.size wr w2) := (Below.refl _ _).drew.trans hb2; have HO2 : Hid (OwnRow 2 w2 wr.heap.size (.slice a2 n2 c2) (nthR L k)) := ho2; have kt2 := cell_keep HB2.out kt; have kt2a : (w2.alloc (.cells #[.slice a2 n2 c2] 33)).cell? ⟨w.heap.size + 1 + 1, 0, none⟩ = some (.slice ag k cg) := cell_keep ((Below.refl _ _).alloc (Nat.le_refl _) _) kt2; have HOR2 : Hid (w2.ownsRow (w.heap.size + 1 + 1 + 1) 33 1 (.slice ag k cg) k ((List.range k).map R)) := (⟨HR.out.1, HR.out.2.imp (fun h => h) (fun ⟨g, cap, cur, e, hgB, hh, r⟩ => ⟨g, cap, cur, e, hgB, by rw [HB2.out.block g (Array.getElem?_eq_some_iff.1 hh).1]; exact hh, r⟩)⟩); have HZ2 : Hid (w.heap.size + 1 + 1 + 1 ≤ (w2.alloc (.cells #[.slice a2 n2 c2] 33)).heap.size) := (by show _ ≤ _; rw [size_alloc1]; have := HB2.out.size; omega); clear ho2 hb2)
        | (refine step_append_lies _ (by rfl) (.tmp 14) (.tmp 21) 22 (by rfl) (w.heap.size + 1 + 1 + 1) 33 i0 (.slice none 0 0) 1 24 Try.underlying22 hi hz0 hz1 hz2 rfl (by omega) (.slice ag k cg) k ((List.range k).map R) (by rfl) (HOR2.out.alloc _) ⟨w2.heap.size, 0, none⟩ 1 1 [.slice a2 n2 c2] (by rfl) rfl (World.news_of_block (heap_alloc_new _ _)) (fun u hu => by simp at hu; subst hu; rfl) Nat.one_pos HC3.out HC4.out HZ2.out (w2.heap.size + 1) (size_alloc1 _ _) ?_; intro g7 cap7 w7 hown7 hgrow7 hat7 hlt7; obtain ⟨hbx7, hw7⟩ := HW.out.grow hlt hl HB2.out HO2.out HBX.out HR.out HRr.out HRd.out hown7 hgrow7; have kt7 := hbx7.1; have ft7 := hbx7.2; have HW7 := Lib.hid hw7; clear hown7 hgrow7 hat7 hlt7 hbx7 hw7))
      all_goals (
        clear kt7 ft7 kt2 kt2a kt ft kb hck
        go_wp2
        go_roundw
        case rel => exact ⟨k + 1, by omega, by go_num, HW7.out⟩
        case measure => simp [intOf]; omega)
    · obtain rfl : k = L.length := by omega
      obtain ⟨ag, cg, hbx, hog⟩ := hw.out
      have kt := hbx.1
      have kr := hw.res.1
      have kf := hw.res.2
      rw [List.take_length] at hog
      have HOG := Lib.hid hog
      have HRS := Lib.hid hw.res
      clear hbx hog hw
      go_wp2
      have q0 : (wr.setCell ⟨w.heap.size + 1, 0, none⟩ (.slice ag L.length cg)).cell? ⟨w.heap.size + 1, 0, none⟩ = some (.slice ag L.length cg) := cell_set_same _ HRS.out.1
      refine bodyPost_ret (v := .agg #[.slice ag L.length cg]) (by simp [results, Try.results71, go_sem, q0]) rfl ⟨L.length, ag, cg, rfl, ?_, ?_⟩
      · exact (HOG.out.setBelow (by simp) _).mono (by omega)
      · exact HW.out.bel.setCell (by simp) _

end Go.Proofs.Ytohjfcfcopbmoaa

/- Walks: an edge contracted. -/
namespace Go.Proofs.Ytohjfcfcopbmoaa
open Go.RowKit

theorem hasB_snoc (xs : List Int) (y z : Int) : hasB (xs ++ [y]) z = (hasB xs z || z == y) := by
  rw [Bool.eq_iff_iff, hasB_mem, Bool.or_eq_true, hasB_mem, beq_iff_eq]
  simp
theorem OwnRow.put {T T2 : TypeId} {w w' : World} {B g n : Nat} {M : Nat → Nat} {v : Value} {xs : List Int} (h : OwnRow T w B v xs) (hp : NetPut T2 w w' g n M) (hg : g < B) : OwnRow T w' B v xs := by
  obtain ⟨h1, h2, h3⟩ := h
  refine ⟨h1, h2, ?_⟩
  rcases h3 with h3 | ⟨g', cap, cur, e, hg', hh, r⟩
  · exact Or.inl h3
  · exact Or.inr ⟨g', cap, cur, e, hg', by rw [hp.other g' (by omega)]; exact hh, r⟩
end Go.Proofs.Ytohjfcfcopbmoaa
