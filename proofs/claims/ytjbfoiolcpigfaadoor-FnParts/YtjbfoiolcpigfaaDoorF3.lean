/- Walks: the model's graph without edges. -/
import Derived.Test.YtjbfoiolcpigfaaDoorF2
import Derived.Test.YtjbfoiolcpigfaaDoorD1
namespace Go.Proofs.YtjbfoiolcpigfaaDoor
open Go.RowKit

theorem own_empty {T : TypeId} (w : World) : OwnRow T (w.alloc (.cells #[] T)) w.heap.size (.slice (some ⟨w.heap.size, 0, none⟩) 0 0) [] :=
  ⟨by simp, by simp, Or.inr ⟨w.heap.size, 0, #[], rfl, Nat.le_refl _, heap_alloc_new _ _, Nat.le_refl _, Nat.zero_le _, rfl, fun i hi => absurd hi (by simp)⟩⟩
theorem own_nil {T T1 : TypeId} (w : World) (B : Nat) : OwnGrid T T1 w B (.slice none 0 0) [] :=
  ⟨fun _ => undef, Nat.zero_le _, Or.inl ⟨rfl, rfl⟩, fun i hi => absurd hi (by simp), fun i j k _ hj => absurd hj (by simp)⟩

/-- A box: a block of one cell that is not frozen. -/
def BoxAt (w : World) (b : Nat) (v : Value) : Prop := w.cell? ⟨b, 0, none⟩ = some v ∧ w.frozen? ⟨b, 0, none⟩ = false
theorem BoxAt.keepB {w w' : World} {B b : Nat} {v : Value} (h : BoxAt w b v) (hb : Below B w w') (hlt : b < B) : BoxAt w' b v := ⟨by rw [hb.cell hlt]; exact h.1, by rw [hb.frozen hlt]; exact h.2⟩
theorem BoxAt.lt {w : World} {b : Nat} {v : Value} (h : BoxAt w b v) : b < w.heap.size := block_lt_of_cell h.1
theorem BoxAt.keep {w w' : World} {b : Nat} {v : Value} (h : BoxAt w b v) (hb : Below w.heap.size w w') : BoxAt w' b v := h.keepB hb h.lt
theorem frozen_set (w : World) (a : Addr) (u : Value) (b : Addr) : (w.setCell a u).frozen? b = w.frozen? b := by
  simp only [World.frozen?, World.setCell, Array.getElem?_modify]
  by_cases h : a.block = b.block
  · rw [if_pos h]
    cases w.heap[b.block]? with
    | none => rfl
    | some o => cases o <;> rfl
  · rw [if_neg h]
theorem BoxAt.set {w : World} {b : Nat} {v : Value} (h : BoxAt w b v) (u : Value) : BoxAt (w.setCell ⟨b, 0, none⟩ u) b u := ⟨cell_set_same u h.1, by rw [frozen_set]; exact h.2⟩
theorem BoxAt.setOther {w : World} {b : Nat} {v : Value} (h : BoxAt w b v) {a : Addr} (ha : a.block ≠ b) (u : Value) : BoxAt (w.setCell a u) b v :=
  ⟨by rw [cell_set_other u (fun e => ha (by rw [e]))]; exact h.1, by rw [frozen_set]; exact h.2⟩
theorem BoxAt.new (w : World) (v : Value) (t : TypeId) : BoxAt (w.alloc (.cells #[v] t)) w.heap.size v := ⟨by go_simp, by go_simp⟩

set_option maxHeartbeats 1600000 in
theorem l1Empty_any (n : Nat) (w : World) (hn : n ≤ 17) : Calls Tryd.prog 116 #[.int .i64 (n : Int)] w (GaveGraph w (List.replicate n [])) := by
  obtain ⟨i0, hi, hz0, hz1, hz2⟩ := info_parts Tryd.infoR
  have b1 : BoxAt ((w.alloc (.cells #[.slice none 0 0] 29)).alloc (.cells #[.slice none 0 0] 29)) w.heap.size (.slice none 0 0) := ⟨by go_simp, by go_simp⟩
  have b2 : BoxAt ((w.alloc (.cells #[.slice none 0 0] 29)).alloc (.cells #[.slice none 0 0] 29)) (w.heap.size + 1) (.slice none 0 0) := ⟨by go_simp, by go_simp⟩
  have B1 := Lib.hid b1
  have B2 := Lib.hid b2
  clear b1 b2
  go_enter Tryd.func116, Tryd.ntmps116
  go_wp2
  go_loopw [4] (fun i wr => ∃ k : Nat, k ≤ n ∧ i = .int .i64 k ∧ BoxAt wr w.heap.size (.slice none 0 0) ∧ (∃ a c, BoxAt wr (w.heap.size + 1) (.slice a k c) ∧ OwnGrid 2 36 wr (w.heap.size + 1 + 1) (.slice a k c) (List.replicate k [])) ∧ w.heap.size + 1 + 1 ≤ wr.heap.size ∧ Below w.heap.size w wr) (fun i _ => n - (intOf i).toNat)
  case atStart => exact ⟨0, Nat.zero_le _, rfl, B1.out, ⟨none, 0, B2.out, own_nil _ _⟩, by simp, ((Below.refl _ _).alloc (Nat.le_refl _) _).alloc (by simp) _⟩
  case round =>
    obtain ⟨k, hk, rfl, hb1, ⟨a, c, hb2, hog⟩, hzs, hbel⟩ := hrel
    have hbc := hb2.1
    have hbf := hb2.2
    have HB1 := Lib.hid hb1
    have HB2 := Lib.hid hb2
    have HOG := Lib.hid hog
    have HBL := Lib.hid hbel
    by_cases hlt : k < n
    · obtain ⟨R, hR, hRr, hRd⟩ := hog.owns
      rw [List.length_replicate] at hR
      have HR := Lib.hid hR
      have HRr := Lib.hid hRr
      have HRd := Lib.hid hRd
      clear hR hRr hRd hog hb1 hb2 hbel
      have hw : Below wr.heap.size wr ((wr.alloc (.cells #[] 2)).alloc (.cells #[.slice (some ⟨wr.heap.size, 0, none⟩) 0 0] 36)) := ((Below.refl _ _).alloc (Nat.le_refl _) _).alloc (by simp) _
      have HW := Lib.hid hw
      clear hw
      go_wp2_with (at_builtin; refine wpList_append_own _ rfl (.tmp 12) (.tmp 14) 27 rfl (w.heap.size + 1 + 1) 36 i0 (.slice none 0 0) 1 24 Tryd.underlying27 hi hz0 hz1 hz2 rfl (by decide) _ _ _ rfl ((HR.out.alloc _).alloc _) ⟨wr.heap.size + 1, 0, none⟩ 1 1 [.slice (some ⟨wr.heap.size, 0, none⟩) 0 0] rfl rfl ?c1 ?c2 ?c3 ?c4 ?c5 ?_)
      case c1 =>
        intro j u hj
        match j, hj with
        | 0, hj => simp at hj; subst hj; simp [Addr.add]
      case c2 => intro u hu; simp at hu; subst hu; rfl
      case c3 => unfold maxLen; omega
      case c4 => omega
      case c5 => simp; omega
      intro v' w5 hown' hgrow _
      have hbw : Below (w.heap.size + 1 + 1) wr w5 := (HW.out.mono hzs).grown hgrow (by simp; omega) (fun j hj => (HR.out.lt j hj).1)
      have hog' : OwnGrid 2 36 w5 (w.heap.size + 1 + 1) v' (List.replicate k [] ++ [[]]) := by
        refine OwnGrid.snoc (w0 := wr) (w := (wr.alloc (.cells #[] 2)).alloc (.cells #[.slice (some ⟨wr.heap.size, 0, none⟩) 0 0] 36)) (rv := .slice (some ⟨wr.heap.size, 0, none⟩) 0 0) (n := k) (by decide) HW.out hzs ?_ (by simp) (by simp; unfold maxLen; omega) R (by simpa using HR.out) HRr.out HRd.out (by simpa using hown') hgrow
        exact (own_empty wr).keep ((Below.refl _ _).alloc (Nat.le_refl _) _)
      have e1 : List.replicate k ([] : List Int) ++ [[]] = List.replicate (k + 1) [] := by rw [List.replicate_succ']
      rw [e1] at hog'
      obtain ⟨a5, c5, e5⟩ := hog'.grid.slice
      rw [List.length_replicate] at e5
      subst e5
      have hb51 := HB1.out.keepB hbw (by omega)
      have hb52 := HB2.out.keepB hbw (by omega)
      have hbc5 := hb52.1
      have hbf5 := hb52.2
      have H51 := Lib.hid hb51
      have H52 := Lib.hid hb52
      have HBW := Lib.hid hbw
      have HOG5 := Lib.hid hog'
      clear hown' hgrow hbw hog' e1 hb51 hb52
      go_wp2
      go_roundw
      case rel =>
        refine ⟨k + 1, by omega, by go_num, H51.out.setOther (by simp) _, ⟨a5, c5, H52.out.set _, HOG5.out.setBelow (by simp) _⟩, by rw [size_setCell1]; exact Nat.le_trans hzs HBW.out.size, ((HBL.out.trans (HBW.out.mono (by omega))).setCell (by simp) _)⟩
      case measure => simp [intOf]; omega
    · obtain rfl : k = n := by omega
      have hrc := hb1.1
      have hrf := hb1.2
      clear hb1 hb2 hog hbel
      go_wp2
      have q0 : (wr.setCell ⟨w.heap.size, 0, none⟩ (.slice a k c)).cell? ⟨w.heap.size, 0, none⟩ = some (.slice a k c) := cell_set_same _ HB1.out.1
      refine bodyPost_ret (v := .agg #[.slice a k c]) (by simp [results, Tryd.results116, go_sem, q0]) rfl ⟨k, a, c, rfl, ?_, ?_⟩
      · exact (HOG.out.setBelow (by simp; omega) _).mono (by omega)
      · exact HBL.out.setCell (by simp) _

end Go.Proofs.YtjbfoiolcpigfaaDoor
