/- Walks of the laws' own helpers: marks of grids that lie interleaved. -/
import Derived.Test.YtohjfcfcopbmoaaDB6
import Derived.Test.YtohjfcfcopbmoaaQMark
import Derived.Test.YtohjfcfcopbmoaaDE2

namespace Go.Proofs.Ytohjfcfcopbmoaa
open Go.RowKit

/-- The blocks that are no row of R are as they were. -/
def RestAs (w w' : World) (n : Nat) (R : Nat → Value) : Prop := ∀ z, z < w.heap.size → (∀ i, i < n → (R i).ownBlock ≠ some z) → w'.heap[z]? = w.heap[z]?
theorem RestAs.refl (w : World) (n : Nat) (R : Nat → Value) : RestAs w w n R := fun _ _ _ => rfl
/-- What marking a grid does, its rows by name. -/
def MarkedBy (w : World) (B : Nat) (v : Value) (L : List (List Int)) (R : Nat → Value) (k : Int) (e : Ending) (w' : World) : Prop :=
  e = .returned (.int .i64 (k + totTo L L.length)) ∧ OwnBy 2 33 w' B v (marksG L k) R ∧ Touched B w.heap.size w w' ∧ RestAs w w' L.length R

set_option maxHeartbeats 800000 in
theorem markBy_any (v : Value) (L : List (List Int)) (R : Nat → Value) (B : Nat) (k : Int) (w : World) (h : OwnBy 2 33 w B v L R) (h0 : 0 ≤ k) (h1 : k ≤ 100000000000000) (hs : Small L) :
    Calls Try.prog 28 #[v, .int .i64 k] w (MarkedBy w B v L R k) := by
  have hm := h.len
  have HR : Hid (∀ i, i < L.length → OwnRowU 2 w B w.heap.size (R i) (nthR L i)) := fun i hi => ⟨h.rows i hi, fun z hz => ((h.rows i hi).lt z hz).2⟩
  have HD := Lib.hid h.diff
  have HOW := Lib.hid h.owns
  have htot := totTo_le hs.2
  have HT := Lib.hid htot
  have hsl := hs.1
  have hv := h.owns.2
  clear htot h
  rcases hv with ⟨rfl, hL0⟩ | ⟨g, cap, cur, rfl, hg, hh, l1, l2, hsz, hc⟩
  · obtain rfl := List.length_eq_zero_iff.1 hL0
    have HP : Hid (MarkedBy w B (.slice none 0 0) [] R k (.returned (.int .i64 k)) w) :=
      ⟨by simp [totTo], by
        have : marksG ([] : List (List Int)) k = [] := by simp [marksG]
        rw [this]; exact OwnBy.nil w B R, Touched.refl _ _ _, RestAs.refl _ _ _⟩
    clear hm hs HR HD HT HOW
    go_enter Try.func28, Try.ntmps28
    go_wp2
    refine wp_loop_rounds 1 ?_
    rw [rounds_succ]
    go_wp2
    go_ret
    exact HP.out
  · have hcc : ∀ i, i < L.length → cur[i]? = some (R i) := fun i hi => by
      have h6 : (cur.toList.take (L.length * 1))[i]? = ((List.range L.length).map R)[i]? := by rw [hc]
      rw [List.getElem?_take, Nat.mul_one, if_pos hi] at h6
      simp [hi] at h6
      simpa using h6
    have HH := Lib.hid hh
    have HC := Lib.hid hcc
    have HG : Hid (g < w.heap.size ∧ B ≤ g) := ⟨(Array.getElem?_eq_some_iff.1 hh).1, hg⟩
    unfold maxLen at hm l2
    have HSm := Lib.hid hs
    clear hh hc hcc hsz hs hg
    go_enter Try.func28, Try.ntmps28
    go_wp2
    go_loopw [1, 5] (fun q i wr => ∃ j : Nat, j ≤ L.length ∧ i = .int .i64 j ∧ q = .int .i64 (k + totTo L j) ∧ wr.heap[g]? = some (.cells cur 33 (0, 0)) ∧ MidMark w wr B w.heap.size L R k j ∧ RestAs w wr L.length R) (fun _ i _ => L.length - (intOf i).toNat)
    case atStart => exact ⟨0, Nat.zero_le _, rfl, by simp [totTo], HH.out, ⟨fun i hi => absurd hi (by omega), fun i _ hi => HR.out i hi, Touched.refl _ _ _⟩, RestAs.refl _ _ _⟩
    case round =>
      obtain ⟨j, hj, rfl, rfl, hh', hmid, hrest⟩ := hrel
      have HH' := Lib.hid hh'
      have HM := Lib.hid hmid
      have HRS := Lib.hid hrest
      have htj := HT.out j hj
      have htj2 : 1048576 * j ≤ 1048576 * 1048576 := by omega
      by_cases hlt : j < L.length
      · have hck : wr.cell? ⟨g, j, none⟩ = some (R j) := by rw [cell_of_row wr g j cur _ _ hh']; exact HC.out j hlt
        have hrow := hmid.2.1 j (Nat.le_refl _) hlt
        have hrs := HSm.out.2 j hlt
        have hts : totTo L (j + 1) = totTo L j + (nthR L j).length := rfl
        have HTS := Lib.hid hts
        clear hh' hmid hts hrest
        go_wp2_with fail
        refine (markInt64S_any _ _ _ _ _ _ hrow (by omega) (by omega)).mono ?_
        rintro e w' ⟨rfl, hr1, ht1, ho1, hn1⟩
        have hstep := midMark_step HM.out hlt HD.out hr1 ht1 ho1 hn1
        have hh2 : w'.heap[g]? = some (.cells cur 33 (0, 0)) := by
          cases hb : (R j).ownBlock with
          | none => rw [hn1 hb]; exact HH'.out
          | some q =>
            rw [(ho1 q hb).other g (fun e => by
              obtain ⟨c2, hc2⟩ := hrow.1.blk hb
              rw [← e, HH'.out] at hc2
              simp at hc2)]
            exact HH'.out
        have hrs2 : RestAs w w' L.length R := fun z hz hno => by
          cases hb : (R j).ownBlock with
          | none => rw [hn1 hb]; exact HRS.out z hz hno
          | some q =>
            rw [(ho1 q hb).other z (fun e => hno j hlt (by rw [hb, e]))]
            exact HRS.out z hz hno
        have HST := Lib.hid hstep
        have HH2 := Lib.hid hh2
        have HR2 := Lib.hid hrs2
        clear hr1 ht1 ho1 hn1 hstep hh2 hrow hrs2
        go_wp2
        go_roundw
        case rel => exact ⟨j + 1, by omega, by go_num, by rw [HTS.out]; go_num, HH2.out, HST.out, HR2.out⟩
        case measure => simp [intOf]; omega
      · obtain rfl : j = L.length := by omega
        clear hh' hmid hrest
        go_wp2
        go_ret
        refine ⟨rfl, ⟨by rw [marksG_len]; unfold maxLen; omega, ?_, fun i hi => ?_, fun i q r h2 h3 => HD.out i q r h2 (by rw [marksG_len] at h3; exact h3)⟩, HM.out.2.2, HRS.out⟩
        · rw [marksG_len]
          refine ⟨HOW.out.1, ?_⟩
          rcases HOW.out.2 with ⟨e, _⟩ | ⟨g', cap', cur', e, hg', hh9, r⟩
          · cases e
          · simp only [Value.slice.injEq, Option.some.injEq, Addr.mk.injEq, and_true] at e
            obtain ⟨e1, e2⟩ := e
            subst e1
            rw [HH.out] at hh9
            have e3 : cur = cur' := by simpa using hh9
            subst e3
            exact Or.inr ⟨g, cap', cur, by simp [e2], hg', HH'.out, r⟩
        · rw [marksG_len] at hi
          rw [marksG_nth L k hi]
          exact (HM.out.1 i hi).1

end Go.Proofs.Ytohjfcfcopbmoaa
