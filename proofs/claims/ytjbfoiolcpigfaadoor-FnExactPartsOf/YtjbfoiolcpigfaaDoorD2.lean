/- Walks of the laws' own helpers: marks. -/
import Derived.Test.YtjbfoiolcpigfaaDoorC1
import Derived.Test.YtjbfoiolcpigfaaDoorMark
namespace Go.Proofs.YtjbfoiolcpigfaaDoor
open Go.RowKit

/-- What marking a row does. -/
def MarkedRow (w : World) (B U : Nat) (v : Value) (n : Nat) (k : Int) (e : Ending) (w' : World) : Prop :=
  e = .returned (.int .i64 (k + n)) ∧ OwnRowU 2 w' B U v (seqFrom k n) ∧ Touched B U w w' ∧ (∀ g, v.ownBlock = some g → OnlyBlk g w w') ∧ (v.ownBlock = none → w' = w)

set_option maxHeartbeats 400000 in
theorem markInt64S_any (v : Value) (xs : List Int) (B U : Nat) (k : Int) (w : World) (h : OwnRowU 2 w B U v xs) (h0 : 0 ≤ k) (h1 : k + xs.length ≤ 1000000000000000) :
    Calls Tryd.prog 57 #[v, .int .i64 k] w (MarkedRow w B U v xs.length k) := by
  obtain ⟨⟨hI, hm, hv⟩, hu⟩ := h
  have HI := Lib.hid hI
  clear hI
  rcases hv with ⟨rfl, rfl⟩ | ⟨g, cap, cur, rfl, hg, hh, l1, l2, hs, hc⟩
  · have HP : Hid (MarkedRow w B U (.slice none 0 0) 0 k (.returned (.int .i64 k)) w) :=
      ⟨by simp, ⟨⟨by simp [seqFrom], by simp [seqFrom], Or.inl ⟨rfl, by simp [seqFrom]⟩⟩, hu⟩, Touched.refl _ _ _, fun g hg => by simp [Value.ownBlock] at hg, fun _ => rfl⟩
    clear hu hm h1
    go_enter Tryd.func57, Tryd.ntmps57
    go_wp2
    refine wp_loop_rounds 1 ?_
    rw [rounds_succ]
    go_wp2
    go_ret
    exact HP.out
  · have hgU := hu g rfl
    have HH := Lib.hid hh
    have HS := Lib.hid hs
    have HC := Lib.hid hc
    unfold maxLen at hm l2
    clear hu hh hc hs
    go_enter Tryd.func57, Tryd.ntmps57
    go_wp2
    go_loopw [1, 5] (fun q i wr => ∃ j : Nat, j ≤ xs.length ∧ i = .int .i64 j ∧ q = .int .i64 (k + j) ∧ (∃ cur' : Array Value, wr.heap[g]? = some (.cells cur' 2 (0, 0)) ∧ cur'.size = cap ∧ ∀ i, i < j → cur'[i]? = some (.int .i64 (k + i))) ∧ OnlyBlk g w wr) (fun _ i _ => xs.length - (intOf i).toNat)
    case atStart => exact ⟨0, Nat.zero_le _, rfl, by simp, ⟨cur, HH.out, HS.out, fun i hi => absurd hi (by omega)⟩, OnlyBlk.refl _ _⟩
    case round =>
      obtain ⟨j, hj, rfl, rfl, ⟨cur', hh', hs', hc'⟩, ho⟩ := hrel
      have HO := Lib.hid ho
      have HH' := Lib.hid hh'
      have HS' := Lib.hid hs'
      have HC' := Lib.hid hc'
      by_cases hlt : j < xs.length
      · have hcf := frozen_of_row wr g j cur' 2 hh'
        obtain ⟨old, hold⟩ : ∃ u, wr.cell? ⟨g, j, none⟩ = some u := by
          rw [cell_of_row wr g j cur' _ _ hh']
          exact ⟨cur'[j]'(by omega), Array.getElem?_eq_getElem (by omega)⟩
        have hk2 : k + (j : Int) ≤ 1000000000000000 := by omega
        clear ho hh' hs' hc'
        go_wp2
        go_roundw
        case rel =>
          refine ⟨j + 1, by omega, by go_num, by go_num, ⟨cur'.setIfInBounds j (.int .i64 (k + j)), heap_setCell_same wr g j cur' 2 _ HH'.out, by rw [Array.size_setIfInBounds]; exact HS'.out, fun i hi => ?_⟩, HO.out.setCell _ _⟩
          rw [Array.getElem?_setIfInBounds]
          by_cases e : j = i
          · subst e; rw [if_pos rfl, if_pos (by have := HS'.out; omega)]
          · rw [if_neg e]; exact HC'.out i (by omega)
        case measure => simp [intOf]; omega
      · obtain rfl : j = xs.length := by omega
        clear ho hh' hs' hc'
        go_wp2
        go_ret
        refine ⟨rfl, ⟨⟨?_, by rw [seqFrom_len]; unfold maxLen; omega, Or.inr ⟨g, cap, cur', by rw [seqFrom_len], hg, HH'.out, by rw [seqFrom_len]; exact l1, by unfold maxLen; exact l2, HS'.out, fun i hi => ?_⟩⟩, fun q hq => by simp [Value.ownBlock] at hq; omega⟩, HO.out.touched hg hgU, fun q hq => by simp [Value.ownBlock] at hq; subst hq; exact HO.out, fun hn => by simp [Value.ownBlock] at hn⟩
        · intro x hx
          simp [seqFrom] at hx
          obtain ⟨i, hi, rfl⟩ := hx
          unfold I64; omega
        · rw [seqFrom_len] at hi
          rw [seqFrom_nth k hi]
          exact HC'.out i hi

/-- What marking a grid does. -/
def MarkedGrid (w : World) (B U : Nat) (v : Value) (L : List (List Int)) (k : Int) (e : Ending) (w' : World) : Prop :=
  e = .returned (.int .i64 (k + totTo L L.length)) ∧ OwnGridU 2 36 w' B U v (marksG L k) ∧ Touched B U w w'

/-- In the middle of marking: j rows are marked. -/
def MidMark (w wr : World) (B U : Nat) (L : List (List Int)) (R : Nat → Value) (k : Int) (j : Nat) : Prop :=
  (∀ i, i < j → OwnRowU 2 wr B U (R i) (seqFrom (k + totTo L i) (nthR L i).length)) ∧ (∀ i, j ≤ i → i < L.length → OwnRowU 2 wr B U (R i) (nthR L i)) ∧ Touched B U w wr

theorem midMark_step {w wr w' : World} {B U : Nat} {L : List (List Int)} {R : Nat → Value} {k : Int} {j : Nat} (h : MidMark w wr B U L R k j) (hj : j < L.length) (hd : ∀ i j k, i < j → j < L.length → (R i).ownBlock = some k → (R j).ownBlock ≠ some k)
    (hr : OwnRowU 2 w' B U (R j) (seqFrom (k + totTo L j) (nthR L j).length)) (ht : Touched B U wr w') (ho : ∀ g, (R j).ownBlock = some g → OnlyBlk g wr w') (hn : (R j).ownBlock = none → w' = wr) : MidMark w w' B U L R k (j + 1) := by
  obtain ⟨h1, h2, h3⟩ := h
  have other : ∀ i xs, i ≠ j → i < L.length → OwnRowU 2 wr B U (R i) xs → OwnRowU 2 w' B U (R i) xs := by
    intro i xs hij hi hx
    refine ⟨?_, hx.2⟩
    cases hb : (R j).ownBlock with
    | none => rw [hn hb]; exact hx.1
    | some g =>
      refine hx.1.only (ho g hb) ?_
      intro e
      rcases Nat.lt_or_gt_of_ne hij with hlt | hgt
      · exact hd i j g hlt hj e hb
      · exact hd j i g hgt hi hb e
  refine ⟨fun i hi => ?_, fun i hi hi2 => other i _ (by omega) hi2 (h2 i (by omega) hi2), h3.trans ht⟩
  by_cases e : i = j
  · subst e; exact hr
  · exact other i _ e (by omega) (h1 i (by omega))

set_option maxHeartbeats 400000 in
theorem markInt64SS_any (v : Value) (L : List (List Int)) (B U : Nat) (k : Int) (w : World) (h : OwnGridU 2 36 w B U v L) (h0 : 0 ≤ k) (h1 : k ≤ 100000000000000) (hs : Small L) :
    Calls Tryd.prog 60 #[v, .int .i64 k] w (MarkedGrid w B U v L k) := by
  obtain ⟨R, hm, hv, hr, hd⟩ := h
  have HR := Lib.hid hr
  have HD := Lib.hid hd
  have htot := totTo_le hs.2
  have HT := Lib.hid htot
  have hsl := hs.1
  clear hr hd htot
  rcases hv with ⟨rfl, rfl⟩ | ⟨g, cap, cur, rfl, hg, hgU, hh, l1, l2, hsz, hc⟩
  · have HP : Hid (MarkedGrid w B U (.slice none 0 0) [] k (.returned (.int .i64 k)) w) :=
      ⟨by simp [totTo], ⟨R, by simp [marksG], Or.inl ⟨rfl, by simp [marksG]⟩, fun i hi => absurd hi (by simp [marksG]), fun i j q _ hj => absurd hj (by simp [marksG])⟩, Touched.refl _ _ _⟩
    clear hm hs HR HD HT
    go_enter Tryd.func60, Tryd.ntmps60
    go_wp2
    refine wp_loop_rounds 1 ?_
    rw [rounds_succ]
    go_wp2
    go_ret
    exact HP.out
  · have HH := Lib.hid hh
    have HC := Lib.hid hc
    have HS := Lib.hid hsz
    unfold maxLen at hm l2
    have HSm := Lib.hid hs
    clear hh hc hsz hs
    go_enter Tryd.func60, Tryd.ntmps60
    go_wp2
    go_loopw [1, 5] (fun q i wr => ∃ j : Nat, j ≤ L.length ∧ i = .int .i64 j ∧ q = .int .i64 (k + totTo L j) ∧ wr.heap[g]? = some (.cells cur 36 (0, 0)) ∧ MidMark w wr B U L R k j) (fun _ i _ => L.length - (intOf i).toNat)
    case atStart => exact ⟨0, Nat.zero_le _, rfl, by simp [totTo], HH.out, fun i hi => absurd hi (by omega), fun i _ hi => HR.out i hi, Touched.refl _ _ _⟩
    case round =>
      obtain ⟨j, hj, rfl, rfl, hh', hmid⟩ := hrel
      have HH' := Lib.hid hh'
      have HM := Lib.hid hmid
      have htj := HT.out j hj
      have htj2 : 1048576 * j ≤ 1048576 * 1048576 := by omega
      by_cases hlt : j < L.length
      · have hck : wr.cell? ⟨g, j, none⟩ = some (R j) := by rw [cell_of_row wr g j cur _ _ hh']; exact HC.out j hlt
        have hrow := hmid.2.1 j (Nat.le_refl _) hlt
        have hrs := HSm.out.2 j hlt
        have hts : totTo L (j + 1) = totTo L j + (nthR L j).length := rfl
        have HTS := Lib.hid hts
        clear hh' hmid hts
        go_wp2_with fail
        refine (markInt64S_any _ _ _ _ _ _ hrow (by omega) (by omega)).mono ?_
        rintro e w' ⟨rfl, hr1, ht1, ho1, hn1⟩
        have hstep := midMark_step HM.out hlt HD.out hr1 ht1 ho1 hn1
        have hh2 : w'.heap[g]? = some (.cells cur 36 (0, 0)) := by
          cases hb : (R j).ownBlock with
          | none => rw [hn1 hb]; exact HH'.out
          | some q =>
            rw [(ho1 q hb).other g (fun e => by
              obtain ⟨c2, hc2⟩ := hrow.1.blk hb
              rw [← e, HH'.out] at hc2
              simp at hc2)]
            exact HH'.out
        have HST := Lib.hid hstep
        have HH2 := Lib.hid hh2
        clear hr1 ht1 ho1 hn1 hstep hh2 hrow
        go_wp2
        go_roundw
        case rel => exact ⟨j + 1, by omega, by go_num, by rw [HTS.out]; go_num, HH2.out, HST.out⟩
        case measure => simp [intOf]; omega
      · obtain rfl : j = L.length := by omega
        clear hh' hmid
        go_wp2
        go_ret
        refine ⟨rfl, ⟨R, by rw [marksG_len]; unfold maxLen; omega, Or.inr ⟨g, cap, cur, by rw [marksG_len], hg, hgU, HH'.out, by rw [marksG_len]; exact l1, by unfold maxLen; exact l2, HS.out, fun i hi => HC.out i (by rw [marksG_len] at hi; exact hi)⟩, fun i hi => ?_, fun i q r h2 h3 => HD.out i q r h2 (by rw [marksG_len] at h3; exact h3)⟩, HM.out.2.2⟩
        rw [marksG_len] at hi
        rw [marksG_nth L k hi]
        exact HM.out.1 i hi

end Go.Proofs.YtjbfoiolcpigfaaDoor
