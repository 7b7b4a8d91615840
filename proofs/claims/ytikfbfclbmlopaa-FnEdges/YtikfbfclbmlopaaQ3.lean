/- The texts F1, C2, C3, Later, C4, F2, joined. -/
import Derived.Laws.AppendOwnNone
import Derived.Deep.RegionHeld3
import Derived.Test.YtikfbfclbmlopaaQ2

/- Walks: the model's copy of a row, and a number put into a row. -/
namespace Go.Proofs.Ytikfbfclbmlopaa
open Go.RowKit

theorem row_news {w : World} {b o : Nat} {xs : List Int} (hc : ∀ i, i < xs.length → w.cell? ⟨b, o + i, none⟩ = some (.int .i64 (nth xs i))) : ∀ j u, (xs.map (Value.int .i64))[j]? = some u → w.cell? ((⟨b, o, none⟩ : Addr).add j) = some u := by
  intro j u hj
  simp at hj
  obtain ⟨x, hx, rfl⟩ := hj
  obtain ⟨hjl, rfl⟩ := List.getElem?_eq_some_iff.1 hx
  have := hc j hjl
  rw [nth_eq hjl] at this
  unfold Addr.add
  split
  · rename_i e; subst e; exact this
  · exact this
theorem ints_one (xs : List Int) : ∀ u ∈ xs.map (Value.int .i64), u.oneCell' = true := by
  intro u hu
  simp at hu
  obtain ⟨x, _, rfl⟩ := hu
  rfl

set_option maxHeartbeats 400000 in
theorem l1Copy_any (v : Value) (xs : List Int) (w : World) (h : RowAt w v xs) (hs : xs.length ≤ 1048576) : Calls Try.prog 127 #[v] w (GaveRow w xs) := by
  obtain ⟨i0, hi, hz0, hz1, hz2⟩ := info_parts Try.infoI
  have hown0 : (w.alloc (.cells #[] 2)).ownsRow w.heap.size 2 1 (.slice (some ⟨w.heap.size, 0, none⟩) 0 0) 0 [] := World.ownsRow_lit w #[] 0 (Nat.le_refl _) (Nat.zero_le _) rfl
  have HO := Lib.hid hown0
  have HI := Lib.hid h.1
  clear hown0
  by_cases h0 : xs.length = 0
  · have he : xs = [] := List.length_eq_zero_iff.1 h0
    rcases h.none_or h0 with rfl | ⟨ad, c, rfl⟩
    · have HP : Hid (GaveRow w xs (.returned (.slice (some ⟨w.heap.size, 0, none⟩) 0 0)) (w.alloc (.cells #[] 2))) :=
        ⟨0, _, 0, rfl, by rw [he]; exact OwnRow.of_ownsRow (n := 0) HO.out (by simp) (by simp), (Below.refl _ _).alloc (Nat.le_refl _) _⟩
      clear h h0 he hs
      go_enter Try.func127, Try.ntmps127
      go_wp2_with (at_builtin; refine wpList_append_own_none rfl (.tmp 3) (.tmp 4) 34 rfl w.heap.size 2 i0 1 Try.underlying34 hi _ _ _ rfl HO.out rfl ?_)
      go_ret
      exact HP.out
    · have HE := Lib.hid he
      clear h h0 he hs
      go_enter Try.func127, Try.ntmps127
      go_wp2_with (at_builtin; refine wpList_append_own _ rfl (.tmp 3) (.tmp 4) 34 rfl w.heap.size 2 i0 (.int .i64 0) 1 8 Try.underlying34 hi hz0 hz1 hz2 rfl (by decide) _ _ _ rfl HO.out ad 0 c [] rfl rfl ?c1 ?c2 ?c3 ?c4 ?c5 ?_)
      case c1 => intro j u hj; simp at hj
      case c2 => intro u hu; simp at hu
      case c3 => unfold maxLen; omega
      case c4 => omega
      case c5 => simp
      intro v' w1 hown' hgrow _
      have hro : OwnRow 2 w1 w.heap.size v' xs := by
        rw [HE.out]; exact OwnRow.of_ownsRow (n := 0) hown' (by simp) (by simp)
      obtain ⟨a1, c1, rfl⟩ := hro.row.slice
      have HP : Hid (GaveRow w xs (.returned (.slice a1 xs.length c1)) w1) := ⟨_, _, _, rfl, hro, ((Below.refl _ _).alloc (Nat.le_refl _) _).grown hgrow (by simp) (fun j hj => by simp [Value.ownBlock] at hj; omega)⟩
      clear hown' hgrow hro
      go_wp2
      go_ret
      exact HP.out
  · obtain ⟨b, o, c, rfl, l1, l2, hc⟩ := h.pos (by omega)
    have hc1 : Hid (∀ i, i < xs.length → (w.alloc (.cells #[] 2)).cell? ⟨b, o + i, none⟩ = some (.int .i64 (nth xs i))) := fun i hi => cell_keep ((Below.refl _ _).alloc (Nat.le_refl _) _) (hc i hi)
    clear h hc h0
    go_enter Try.func127, Try.ntmps127
    go_wp2_with (at_builtin; refine wpList_append_own _ rfl (.tmp 3) (.tmp 4) 34 rfl w.heap.size 2 i0 (.int .i64 0) 1 8 Try.underlying34 hi hz0 hz1 hz2 rfl (by decide) _ _ _ rfl HO.out ⟨b, o, none⟩ xs.length c (xs.map (Value.int .i64)) rfl (by simp) ?c1 ?c2 ?c3 ?c4 ?c5 ?_)
    case c1 => exact row_news hc1.out
    case c2 => exact ints_one xs
    case c3 => unfold maxLen; omega
    case c4 => omega
    case c5 => simp
    intro v' w1 hown' hgrow _
    have hro : OwnRow 2 w1 w.heap.size v' xs := OwnRow.of_ownsRow (n := 0 + xs.length) (by simpa using hown') (by unfold maxLen; omega) HI.out
    obtain ⟨a1, c1, rfl⟩ := hro.row.slice
    have HP : Hid (GaveRow w xs (.returned (.slice a1 xs.length c1)) w1) := ⟨_, _, _, rfl, hro, ((Below.refl _ _).alloc (Nat.le_refl _) _).grown hgrow (by simp) (fun j hj => by simp [Value.ownBlock] at hj; omega)⟩
    clear hown' hgrow hro
    go_wp2
    go_ret
    exact HP.out

end Go.Proofs.Ytikfbfclbmlopaa

/- Walks: EdgeIn. -/
namespace Go.Proofs.Ytikfbfclbmlopaa
open Go.RowKit

set_option maxHeartbeats 400000 in
theorem l1There_any (v : Value) (L : List (List Int)) (u : Int) (w : World) (h : GridAt w v L) :
    Calls Try.prog 95 #[.agg #[v], .int .i64 u] w fun e w' => e = .returned (.bool (inB u 0 ((L.length : Int) - 1))) ∧ Below w.heap.size w w' := by
  have hl := h.len
  unfold maxLen at hl
  obtain ⟨a0, c0, rfl⟩ := h.slice
  have ha : Below w.heap.size w (w.alloc (.cells #[.slice a0 L.length c0] 26)) := (Below.refl _ _).alloc (Nat.le_refl _) _
  have hk := h.keep ha
  have HA := Lib.hid ha
  clear ha
  go_enter Try.func95, Try.ntmps95
  go_wp2_with fail
  refine (l1Size_any _ _ _ hk).mono ?_
  rintro e w1 ⟨rfl, hb1⟩
  have HB1 : Hid (Below w.heap.size w w1) := HA.out.trans (hb1.mono (by simp))
  clear hb1 hk h
  go_wp2_with fail
  refine (l1In_any _ _ _ _).mono ?_
  rintro e w' ⟨rfl, rfl⟩
  go_wp2
  go_ret
  exact ⟨rfl, HB1.out⟩

set_option maxHeartbeats 400000 in
theorem l1Edge_any (v : Value) (L : List (List Int)) (u x : Int) (w : World) (h : GridAt w v L) (h0 : 0 ≤ u) (h1 : u < (L.length : Int)) :
    Calls Try.prog 96 #[.agg #[v], .int .i64 u, .int .i64 x] w fun e w' => e = .returned (.bool (hasB (nthR L u.toNat) x)) ∧ Below w.heap.size w w' := by
  have hl := h.len
  unfold maxLen at hl
  obtain ⟨b, o, c, A, C, rfl, l1, l2, hc⟩ := h.pos (by omega)
  have hcu := hc u.toNat (by omega)
  have ha : Below w.heap.size w (w.alloc (.cells #[.slice (some ⟨b, o, none⟩) L.length c] 26)) := (Below.refl _ _).alloc (Nat.le_refl _) _
  have hc1 := cell_keep ha hcu.1
  have hr1 := hcu.2.keep ha
  have HA := Lib.hid ha
  clear ha hc hcu h
  go_enter Try.func96, Try.ntmps96
  go_wp2_with fail
  refine (l1Has_any _ _ _ _ hr1).mono ?_
  rintro e w' ⟨rfl, rfl⟩
  go_wp2
  go_ret
  exact ⟨rfl, HA.out⟩

/-- What EdgeIn answers. -/
def edgeB (L : List (List Int)) (u x : Int) : Bool := decide (GraphP L) && inB u 0 ((L.length : Int) - 1) && inB x 0 ((L.length : Int) - 1) && hasB (nthR L u.toNat) x

set_option maxHeartbeats 800000 in
theorem specEdgeIn_any (v : Value) (L : List (List Int)) (u x : Int) (w : World) (h : GridAt w v L) (_hu : I64 u) (_hx : I64 x) :
    Calls Try.prog 41 #[.agg #[v], .int .i64 u, .int .i64 x] w fun e w' => e = .returned (.bool (edgeB L u x)) ∧ Below w.heap.size w w' := by
  obtain ⟨a0, c0, rfl⟩ := h.slice
  have ha : Below w.heap.size w (w.alloc (.cells #[.slice a0 L.length c0] 26)) := (Below.refl _ _).alloc (Nat.le_refl _) _
  have hk := h.keep ha
  have HA := Lib.hid ha
  clear ha
  go_enter Try.func41, Try.ntmps41
  go_wp2_with fail
  refine (specGraphOk_any _ _ _ hk).mono ?_
  rintro e w1 ⟨rfl, hb1⟩
  have kb1 : w1.cell? ⟨w.heap.size, 0, none⟩ = some (.slice a0 L.length c0) := by rw [hb1.cell (by simp)]; go_simp
  have R1 := Lib.hid (hk.keep hb1)
  have HB1 : Hid (Below w.heap.size w w1) := HA.out.trans (hb1.mono (by simp))
  clear hb1 hk h HA
  by_cases hG : GraphP L
  · have HE : Hid (edgeB L u x = (inB u 0 ((L.length : Int) - 1) && inB x 0 ((L.length : Int) - 1) && hasB (nthR L u.toNat) x)) := by show edgeB L u x = _; simp [edgeB, hG]
    rw [decide_eq_true hG]
    clear hG
    go_wp2_with fail
    refine (l1There_any _ _ _ _ R1.out).mono ?_
    rintro e w2 ⟨rfl, hb2⟩
    have kb2 := cell_keep hb2 kb1
    have R2 := Lib.hid (R1.out.keep hb2)
    have HB2 : Hid (Below w.heap.size w w2) := HB1.out.trans (hb2.mono HB1.out.size)
    clear hb2 kb1 R1 HB1
    by_cases hu : inB u 0 ((L.length : Int) - 1) = true
    · have HE2 : Hid (edgeB L u x = (inB x 0 ((L.length : Int) - 1) && hasB (nthR L u.toNat) x)) := by show edgeB L u x = _; rw [HE.out, hu]; simp
      have hu' : 0 ≤ u ∧ u ≤ (L.length : Int) - 1 := by simpa [inB] using hu
      rw [hu]
      clear hu HE
      go_wp2_with fail
      refine (l1There_any _ _ _ _ R2.out).mono ?_
      rintro e w3 ⟨rfl, hb3⟩
      have kb3 := cell_keep hb3 kb2
      have R3 := Lib.hid (R2.out.keep hb3)
      have HB3 : Hid (Below w.heap.size w w3) := HB2.out.trans (hb3.mono HB2.out.size)
      clear hb3 kb2 R2 HB2
      by_cases hx : inB x 0 ((L.length : Int) - 1) = true
      · have HE3 : Hid (edgeB L u x = hasB (nthR L u.toNat) x) := by show edgeB L u x = _; rw [HE2.out, hx]; simp
        rw [hx]
        clear hx HE2
        go_wp2_with fail
        refine (l1Edge_any _ _ _ _ _ R3.out hu'.1 (by omega)).mono ?_
        rintro e w4 ⟨rfl, hb4⟩
        have HB4 : Hid (Below w.heap.size w w4) := HB3.out.trans (hb4.mono HB3.out.size)
        clear hb4
        go_wp2
        go_ret
        exact ⟨ret_bool HE3.out.symm, HB4.out⟩
      · have hx' : inB x 0 ((L.length : Int) - 1) = false := by simpa using hx
        have HE3 : Hid (edgeB L u x = false) := by show edgeB L u x = _; rw [HE2.out, hx']; simp
        rw [hx']
        clear hx hx' HE2
        go_wp2
        go_ret
        exact ⟨ret_bool HE3.out.symm, HB3.out⟩
    · have hu' : inB u 0 ((L.length : Int) - 1) = false := by simpa using hu
      have HE3 : Hid (edgeB L u x = false) := by show edgeB L u x = _; rw [HE.out, hu']; simp
      rw [hu']
      clear hu hu' HE
      go_wp2
      go_ret
      exact ⟨ret_bool HE3.out.symm, HB2.out⟩
  · have HE3 : Hid (edgeB L u x = false) := by show edgeB L u x = _; simp [edgeB, hG]
    rw [decide_eq_false hG]
    clear hG
    go_wp2
    go_ret
    exact ⟨ret_bool HE3.out.symm, HB1.out⟩

theorem rowM_edge {L : List (List Int)} (hG : GraphP L) {u : Nat} (hu : u < L.length) (x : Int) : hasM (rowM L u) x = (inB x 0 ((L.length : Int) - 1) && hasB (nthR L u) x) := by
  have hs : ∀ v, v < L.length → SetP (nthR L v) L.length := fun v hv => (hG.2.1 v hv).1
  have hz := hG.1
  by_cases h1 : 0 ≤ x ∧ x < 16
  · obtain ⟨k, rfl⟩ := Int.eq_ofNat_of_zero_le h1.1
    rw [rowM_has hs hu (by omega)]
    by_cases h2 : inB (k : Int) 0 ((L.length : Int) - 1) = true
    · rw [h2]; simp
    · have h2' : inB (k : Int) 0 ((L.length : Int) - 1) = false := by simpa using h2
      rw [h2', Bool.false_and]
      cases hh : hasB (nthR L u) k with
      | false => rfl
      | true =>
        obtain ⟨i, hi, e⟩ := (hasB_iff _ _).1 hh
        have := hs u hu i hi
        have h3 := this.2.1
        have h4 := this.1
        rw [e] at h3 h4
        simp [inB] at h2
        omega
  · have e1 : hasM (rowM L u) x = false := by unfold hasM; rw [decide_eq_false h1, Bool.false_and]
    have e2 : inB x 0 ((L.length : Int) - 1) = false := by unfold inB; rw [decide_eq_false_iff_not]; omega
    rw [e1, e2, Bool.false_and]

set_option maxHeartbeats 800000 in
theorem implEdgeIn_any (v : Value) (L : List (List Int)) (u x : Int) (w : World) (h : GridAt w v L) (_hu : I64 u) (_hx : I64 x) :
    Calls Try.prog 26 #[.agg #[v], .int .i64 u, .int .i64 x] w fun e w' => e = .returned (.bool (edgeB L u x)) ∧ Below w.heap.size w w' := by
  obtain ⟨a0, c0, rfl⟩ := h.slice
  have ha : Below w.heap.size w (w.alloc (.cells #[.slice a0 L.length c0] 26)) := (Below.refl _ _).alloc (Nat.le_refl _) _
  have hk := h.keep ha
  have HA := Lib.hid ha
  clear ha
  go_enter Try.func26, Try.ntmps26
  go_wp2_with fail
  refine (netOf_any _ _ _ hk).mono ?_
  rintro e w1 ⟨rfl, hb1⟩
  have HB1 : Hid (Below w.heap.size w w1) := HA.out.trans (hb1.mono (by simp))
  have hz : w.heap.size ≤ w1.heap.size := HB1.out.size
  have hnb := netBlk_new w1 0 (fun _ => 0)
  clear hb1 hk h
  by_cases hG : GraphP L
  · have hz1 := hG.1
    have hsP : ∀ v, v < L.length → SetP (nthR L v) L.length := fun v hv => (hG.2.1 v hv).1
    rw [decide_eq_true hG, netArr_yes hG]
    by_cases hu : 0 ≤ u ∧ u < (L.length : Int)
    · have hnu : u.toNat < L.length := by omega
      have HE : Hid (edgeB L u x = hasM (rowM L u.toNat) x) := by
        show edgeB L u x = _
        rw [rowM_edge hG hnu]
        have : inB u 0 ((L.length : Int) - 1) = true := by simp [inB]; omega
        simp [edgeB, hG, this]
      have hml := rowM_lt (L := L) (by omega) hsP u.toNat
      have hdu : decide (0 ≤ u ∧ u < (L.length : Int)) = true := by simpa using hu
      have HDU := Lib.hid hdu
      obtain ⟨hu0, hu1⟩ := hu
      have hu16 : u < 16 := by omega
      have hu16' : u.toNat < 16 := by omega
      clear hG hsP hdu
      go_wp2_with (first | (refine wpList_store_net rfl 71 (.tmp 7) (.tmp 12) rfl w1.heap.size L.length (rowM L) rfl rfl Try.sizeNet 0 (fun _ => 0) hnb ?_; intro w3 hp; have hn3 := hp.net.at; have hn0 := hn3.1; have hnu3 := hn3.2 u.toNat hu16'; have HB3 : Hid (Below w.heap.size w w3) := (HB1.out.alloc hz _).trans (hp.below.mono hz); clear hp hn3) | (go_at_call 84; refine (isVertex_any _ _ _).mono ?_; rintro e w' ⟨rfl, rfl⟩; rw [HDU.out]) | (go_at_call 71; refine (has_any _ _ _ hml).mono ?_; rintro e w' ⟨rfl, rfl⟩))
      go_ret
      exact ⟨ret_bool HE.out.symm, HB3.out⟩
    · have HE : Hid (edgeB L u x = false) := by
        show edgeB L u x = _
        have : inB u 0 ((L.length : Int) - 1) = false := by unfold inB; rw [decide_eq_false_iff_not]; omega
        simp [edgeB, this]
      have hdu : decide (0 ≤ u ∧ u < (L.length : Int)) = false := by simpa using hu
      have HDU := Lib.hid hdu
      clear hG hsP hdu hu
      go_wp2_with (first | (refine wpList_store_net rfl 71 (.tmp 7) (.tmp 12) rfl w1.heap.size L.length (rowM L) rfl rfl Try.sizeNet 0 (fun _ => 0) hnb ?_; intro w3 hp; have hn3 := hp.net.at; have hn0 := hn3.1; have HB3 : Hid (Below w.heap.size w w3) := (HB1.out.alloc hz _).trans (hp.below.mono hz); clear hp hn3) | (go_at_call 84; refine (isVertex_any _ _ _).mono ?_; rintro e w' ⟨rfl, rfl⟩; rw [HDU.out]))
      go_ret
      exact ⟨ret_bool HE.out.symm, HB3.out⟩
  · have HE : Hid (edgeB L u x = false) := by show edgeB L u x = _; simp [edgeB, hG]
    rw [decide_eq_false hG, netArr_no hG]
    clear hG
    go_wp2_with (refine wpList_store_net rfl 71 (.tmp 7) (.tmp 12) rfl w1.heap.size 0 (fun _ => 0) rfl rfl Try.sizeNet 0 (fun _ => 0) hnb ?_; intro w3 hp; have HB3 : Hid (Below w.heap.size w w3) := (HB1.out.alloc hz _).trans (hp.below.mono hz); clear hp)
    go_ret
    exact ⟨ret_bool HE.out.symm, HB3.out⟩

end Go.Proofs.Ytikfbfclbmlopaa

/- Walks: SetOk. -/
namespace Go.Proofs.Ytikfbfclbmlopaa
open Go.RowKit

/-- What SetOk answers. -/
def setB (L : List (List Int)) (xs : List Int) : Bool := decide (GraphP L) && decide (SetP xs L.length)

set_option maxHeartbeats 800000 in
theorem specSetOk_any (v v1 : Value) (L : List (List Int)) (xs : List Int) (w : World) (h : GridAt w v L) (h1 : RowAt w v1 xs) :
    Calls Try.prog 34 #[.agg #[v], v1] w fun e w' => e = .returned (.bool (setB L xs)) ∧ Below w.heap.size w w' := by
  obtain ⟨a0, c0, rfl⟩ := h.slice
  have ha : Below w.heap.size w (w.alloc (.cells #[.slice a0 L.length c0] 26)) := (Below.refl _ _).alloc (Nat.le_refl _) _
  have hk := h.keep ha
  have R0 := Lib.hid (h1.keep ha)
  have HA := Lib.hid ha
  clear ha
  go_enter Try.func34, Try.ntmps34
  go_wp2_with fail
  refine (specGraphOk_any _ _ _ hk).mono ?_
  rintro e w1 ⟨rfl, hb1⟩
  have kb1 : w1.cell? ⟨w.heap.size, 0, none⟩ = some (.slice a0 L.length c0) := by rw [hb1.cell (by simp)]; go_simp
  have R1 := Lib.hid (hk.keep hb1)
  have S1 := Lib.hid (R0.out.keep hb1)
  have HB1 : Hid (Below w.heap.size w w1) := HA.out.trans (hb1.mono (by simp))
  clear hb1 hk h HA R0
  by_cases hG : GraphP L
  · have HE : Hid (setB L xs = decide (SetP xs L.length)) := by show setB L xs = _; simp [setB, hG]
    have hz := hG.1
    rw [decide_eq_true hG]
    clear hG
    go_wp2_with fail
    refine (l1Size_any _ _ _ R1.out).mono ?_
    rintro e w2 ⟨rfl, hb2⟩
    have S2 := Lib.hid (S1.out.keep hb2)
    have HB2 : Hid (Below w.heap.size w w2) := HB1.out.trans (hb2.mono HB1.out.size)
    clear hb2 kb1 R1 HB1 S1
    go_wp2_with fail
    refine (l1Set_any _ _ _ _ S2.out (by omega) (by omega)).mono ?_
    rintro e w3 ⟨rfl, hd3⟩
    have HB3 : Hid (Below w.heap.size w w3) := HB2.out.trans (hd3.below _)
    clear hd3
    go_wp2
    go_ret
    exact ⟨ret_bool HE.out.symm, HB3.out⟩
  · have HE : Hid (setB L xs = false) := by show setB L xs = _; simp [setB, hG]
    rw [decide_eq_false hG]
    clear hG
    go_wp2
    go_ret
    exact ⟨ret_bool HE.out.symm, HB1.out⟩

set_option maxHeartbeats 800000 in
theorem implSetOk_any (v v1 : Value) (L : List (List Int)) (xs : List Int) (w : World) (h : GridAt w v L) (h1 : RowAt w v1 xs) :
    Calls Try.prog 33 #[.agg #[v], v1] w fun e w' => e = .returned (.bool (setB L xs)) ∧ Below w.heap.size w w' := by
  obtain ⟨a0, c0, rfl⟩ := h.slice
  have ha : Below w.heap.size w (w.alloc (.cells #[.slice a0 L.length c0] 26)) := (Below.refl _ _).alloc (Nat.le_refl _) _
  have hk := h.keep ha
  have R0 := Lib.hid (h1.keep ha)
  have HA := Lib.hid ha
  clear ha
  go_enter Try.func33, Try.ntmps33
  go_wp2_with fail
  refine (netOf_any _ _ _ hk).mono ?_
  rintro e w1 ⟨rfl, hb1⟩
  have HB1 : Hid (Below w.heap.size w w1) := HA.out.trans (hb1.mono (by simp))
  have S1 := Lib.hid (R0.out.keep hb1)
  have hz : w.heap.size ≤ w1.heap.size := HB1.out.size
  have hnb := netBlk_new w1 0 (fun _ => 0)
  clear hb1 hk h HA R0
  by_cases hG : GraphP L
  · have hz1 := hG.1
    have HE : Hid (setB L xs = decide (SetP xs L.length)) := by show setB L xs = _; simp [setB, hG]
    rw [decide_eq_true hG, netArr_yes hG]
    clear hG
    go_wp2_with (first | (refine wpList_store_net rfl 71 (.tmp 5) (.tmp 10) rfl w1.heap.size L.length (rowM L) rfl rfl Try.sizeNet 0 (fun _ => 0) hnb ?_; intro w3 hp; have hn0 := hp.net.at.1; have HB3 : Hid (Below w.heap.size w w3) := (HB1.out.alloc hz _).trans (hp.below.mono hz); have S3 := Lib.hid (S1.out.keep hp.since); clear hp) | (go_at_call 90; refine (maskOf_any _ _ _ _ S3.out (by omega) (by omega)).mono ?_; rintro e w4 ⟨rfl, hb4⟩; have HB4 : Hid (Below w.heap.size w w4) := HB3.out.trans (hb4.mono HB3.out.size); clear hb4))
    all_goals go_ret
    all_goals exact ⟨ret_bool (by rw [HE.out]; symm; first | exact decide_eq_true (by assumption) | exact decide_eq_false (by assumption)), HB4.out⟩
  · have HE : Hid (setB L xs = false) := by show setB L xs = _; simp [setB, hG]
    rw [decide_eq_false hG, netArr_no hG]
    clear hG
    go_wp2_with (refine wpList_store_net rfl 71 (.tmp 5) (.tmp 10) rfl w1.heap.size 0 (fun _ => 0) rfl rfl Try.sizeNet 0 (fun _ => 0) hnb ?_; intro w3 hp; have HB3 : Hid (Below w.heap.size w w3) := (HB1.out.alloc hz _).trans (hp.below.mono hz); clear hp)
    go_ret
    exact ⟨ret_bool HE.out.symm, HB3.out⟩

end Go.Proofs.Ytikfbfclbmlopaa

/- A class of worlds for regions that draw their order and call what makes memory but hands back a plain value: all worlds in which nothing that was there has turned. -/
namespace Go.Proofs.Ytikfbfclbmlopaa
open Go.RowKit

/-- A world in which all of w is as it was. -/
def Later (w : World) : Type := { w' : World // Below w.heap.size w w' }
instance (w : World) : Nonempty (Later w) := ⟨⟨w, Below.refl _ _⟩⟩
def Later.at {w : World} (x : Later w) : World := x.1
theorem Later.bel {w : World} (x : Later w) : Below w.heap.size w x.at := x.2
theorem Later.cell {w : World} {a : Addr} {v : Value} (h : w.cell? a = some v) (x : Later w) : x.at.cell? a = some v := cell_keep x.bel h

theorem wp_region_later {P : Program} {id : Nat} {Q : Exit → Act → World → Prop} {a : Act} {w : World} {l : List Oper} (hm : P.follows .mixedOrders = true) (hB : Region.lexB .any l.toArray = true)
    (h : wpQuiet P l.toArray (fun w' => ∃ x : Later w, w' = x.at) (fun a' => ∀ w', (∃ x : Later w, w' = x.at) → Q .normal a' w') l a) : (Code.region id l.toArray true).wp P Q a w :=
  wp_region_quiet (C := fun w' => ∃ x : Later w, w' = x.at) hm hB ⟨⟨w.drew, (Below.refl _ _).drew⟩, rfl⟩ (by simpa using h)

theorem Calls.later {P : Program} {f : FuncId} {args : Array Value} {w : World} {x : Later w} {v : Value}
    (h : Calls P f args x.at fun e w' => e = .returned v ∧ Below x.at.heap.size x.at w') : Calls P f args x.at fun e w'' => e = .returned v ∧ ∃ y : Later w, w'' = y.at :=
  h.mono fun _ w' ⟨he, hb⟩ => ⟨he, ⟨w', x.bel.trans (hb.mono x.bel.size)⟩, rfl⟩
theorem Calls.later_same {P : Program} {f : FuncId} {args : Array Value} {w : World} {x : Later w} {v : Value}
    (h : Calls P f args x.at fun e w' => e = .returned v ∧ x.at = w') : Calls P f args x.at fun e w'' => e = .returned v ∧ ∃ y : Later w, w'' = y.at :=
  h.mono fun _ _ ⟨he, hb⟩ => ⟨he, x, hb.symm⟩
theorem Calls.later_drawn {P : Program} {f : FuncId} {args : Array Value} {w : World} {x : Later w} {v : Value}
    (h : Calls P f args x.at fun e w' => e = .returned v ∧ Drawn x.at w') : Calls P f args x.at fun e w'' => e = .returned v ∧ ∃ y : Later w, w'' = y.at :=
  Calls.later (h.mono fun _ _ ⟨he, hd⟩ => ⟨he, hd.below _⟩)

end Go.Proofs.Ytikfbfclbmlopaa

/- Walks: OrderOk. -/
namespace Go.Proofs.Ytikfbfclbmlopaa
open Go.RowKit

/-- Element k is a vertex below n that is not among the first k. -/
def OrdAt (xs : List Int) (n : Nat) (k : Nat) : Prop := inB (nth xs k) 0 ((n : Int) - 1) = true ∧ hasB (xs.take k) (nth xs k) = false
instance (xs : List Int) (n k : Nat) : Decidable (OrdAt xs n k) := by unfold OrdAt; infer_instance
/-- The list names each of n vertices once. -/
def OrdP (xs : List Int) (n : Nat) : Prop := xs.length = n ∧ ∀ k, k < xs.length → OrdAt xs n k
instance (xs : List Int) (n : Nat) : Decidable (OrdP xs n) := by unfold OrdP; infer_instance

theorem nth_take {xs : List Int} {k i : Nat} (h : i < k) : nth (xs.take k) i = nth xs i := by simp [nth, h]
theorem hasB_take {xs : List Int} {k : Nat} (hk : k ≤ xs.length) (x : Int) : hasB (xs.take k) x = true ↔ ∃ j, j < k ∧ nth xs j = x := by
  rw [hasB_iff]
  constructor
  · rintro ⟨i, hi, e⟩
    have hi' : i < k := by simp at hi; omega
    exact ⟨i, hi', by rw [← nth_take hi']; exact e⟩
  · rintro ⟨i, hi, e⟩
    exact ⟨i, by simp; omega, by rw [nth_take hi]; exact e⟩

theorem RowAt.take {w : World} {b o c : Nat} {xs : List Int} {n : Nat} (h : RowAt w (.slice (some ⟨b, o, none⟩) n c) xs) (hc : ∀ i, i < xs.length → w.cell? ⟨b, o + i, none⟩ = some (.int .i64 (nth xs i))) (hcm : c ≤ maxLen) (hcx : xs.length ≤ c) (k : Nat) (hk : k ≤ xs.length) :
    RowAt w (.slice (some ⟨b, o, none⟩) k c) (xs.take k) := by
  have e : (xs.take k).length = k := by simp; omega
  refine ⟨fun x hx => h.1 x (List.mem_of_mem_take hx), by rw [e]; exact Nat.le_trans hk h.2.1, Or.inr ⟨b, o, c, by rw [e], by omega, hcm, fun i hi => ?_⟩⟩
  rw [e] at hi
  rw [nth_take hi]
  exact hc i (by omega)

set_option maxHeartbeats 1000000 in
theorem l1Order_any (v v1 : Value) (L : List (List Int)) (xs : List Int) (w : World) (h : GridAt w v L) (h1 : RowAt w v1 xs) :
    Calls Try.prog 87 #[.agg #[v], v1] w fun e w' => e = .returned (.bool (decide (OrdP xs L.length))) ∧ Below w.heap.size w w' := by
  have hl := h.len
  have hl1 := h1.len
  unfold maxLen at hl hl1
  obtain ⟨a0, c0, rfl⟩ := h.slice
  have ha : Below w.heap.size w (w.alloc (.cells #[.slice a0 L.length c0] 26)) := (Below.refl _ _).alloc (Nat.le_refl _) _
  have hk := h.keep ha
  have hr := h1.keep ha
  have HA := Lib.hid ha
  clear ha
  by_cases hn : xs.length = L.length
  · have hne : ((xs.length : Int) != (L.length : Int)) = false := by rw [hn]; simp
    by_cases h0 : xs.length = 0
    · have HE : Hid (decide (OrdP xs L.length) = true) := by show decide _ = true; rw [decide_eq_true_iff]; exact ⟨hn, fun k hk => by omega⟩
      obtain ⟨a1, c1, rfl⟩ := h1.zero h0
      have hL0 : ((0 : Int) != (L.length : Int)) = false := by rw [← hn, h0]; simp
      clear hne hn h0
      go_enter Try.func87, Try.ntmps87
      go_wp2_with fail
      refine (l1Size_any _ _ _ hk).mono ?_
      rintro e w1 ⟨rfl, hb1⟩
      have HB1 : Hid (Below w.heap.size w w1) := HA.out.trans (hb1.mono (by simp))
      clear hb1
      go_wp2
      refine wp_loop_rounds 1 ?_
      rw [rounds_succ]
      go_wp2
      go_ret
      exact ⟨ret_bool HE.out.symm, HB1.out⟩
    · obtain ⟨b, o, c, rfl, l1, l2, hc⟩ := hr.pos (by omega)
      have HC := Lib.hid hc
      have HN := Lib.hid hn
      clear hc hn h0 h1 h
      go_enter Try.func87, Try.ntmps87
      go_wp2_with fail
      refine (l1Size_any _ _ _ hk).mono ?_
      rintro e w1 ⟨rfl, hb1⟩
      have kb1 : w1.cell? ⟨w.heap.size, 0, none⟩ = some (.slice a0 L.length c0) := by rw [hb1.cell (by simp)]; go_simp
      have R1 := Lib.hid (hk.keep hb1)
      have S1 := Lib.hid (hr.keep hb1)
      have HC1 : Hid (∀ i, i < xs.length → w1.cell? ⟨b, o + i, none⟩ = some (.int .i64 (nth xs i))) := fun i hi => cell_keep hb1 (HC.out i hi)
      have HB1 : Hid (Below w.heap.size w w1) := HA.out.trans (hb1.mono (by simp))
      have hkb1 := Lib.hid kb1
      clear hb1 hk hr HC HA kb1
      go_wp2
      go_loopw [5] (fun i wr => ∃ k : Nat, k ≤ xs.length ∧ i = .int .i64 k ∧ (∀ j, j < k → OrdAt xs L.length j) ∧ Below w1.heap.size w1 wr) (fun i _ => xs.length - (intOf i).toNat)
      case atStart => exact ⟨0, Nat.zero_le _, rfl, (fun j hj => absurd hj (by omega)), Below.refl _ _⟩
      case round =>
        obtain ⟨k, hk, rfl, he, hb⟩ := hrel
        have HE := Lib.hid he
        clear he
        by_cases hlt : k < xs.length
        · have hck := cell_keep hb (HC1.out k hlt)
          have kb := cell_keep hb hkb1.out
          have R := Lib.hid (R1.out.keep hb)
          have hcap : (k : Int) ≤ (c : Int) := by omega
          have T := Lib.hid ((S1.out.keep hb).take (fun i hi => cell_keep hb (HC1.out i hi)) l2 l1 k hk)
          have HBw : Hid (Below w.heap.size w wr) := HB1.out.trans (hb.mono HB1.out.size)
          have HBr := Lib.hid hb
          clear hb
          by_cases hin : inB (nth xs k) 0 ((L.length : Int) - 1) = true
          · have HI := Lib.hid hin
            by_cases hH : hasB (xs.take k) (nth xs k) = true
            · have HH := Lib.hid hH
              clear hin hH
              go_wp2
              go_region_held3 (fun wx => wx.cell? ⟨w.heap.size, 0, none⟩ = some (.slice a0 L.length c0) ∧ wx.cell? ⟨b, o + k, none⟩ = some (.int .i64 (nth xs k))) (first | exact ⟨kb, hck⟩ | exact ⟨kb2, hck2⟩) (first | (go_at_call 95; refine (l1There_any _ _ _ _ (R.out.keep (Below.refl _ _).drew)).mono ?_; rintro e w2 ⟨rfl, hb2⟩; rw [HI.out]; have kb2 := cell_keep hb2 (cell_keep (Below.refl _ _).drew kb); have hck2 := cell_keep hb2 (cell_keep (Below.refl _ _).drew hck); have T2 := Lib.hid ((T.out.keep (Below.refl _ _).drew).keep hb2); have HB2 : Hid (Below w.heap.size w w2) := HBw.out.drew.trans (hb2.mono HBw.out.size); clear hb2) | (go_at_call 75; refine (l1Has_any _ _ _ _ T2.out).mono ?_; rintro e w' ⟨rfl, rfl⟩; rw [HH.out]))
              go_wp2
              go_ret
              exact ⟨ret_bool (by symm; rw [decide_eq_false_iff_not]; intro hp; have := (hp.2 k hlt).2; rw [HH.out] at this; exact absurd this (by simp)), HB2.out⟩
            · have hH' : hasB (xs.take k) (nth xs k) = false := by simpa using hH
              have HH := Lib.hid hH'
              clear hin hH hH'
              go_wp2
              go_region_held3 (fun wx => wx.cell? ⟨w.heap.size, 0, none⟩ = some (.slice a0 L.length c0) ∧ wx.cell? ⟨b, o + k, none⟩ = some (.int .i64 (nth xs k))) (first | exact ⟨kb, hck⟩ | exact ⟨kb2, hck2⟩) (first | (go_at_call 95; refine (l1There_any _ _ _ _ (R.out.keep (Below.refl _ _).drew)).mono ?_; rintro e w2 ⟨rfl, hb2⟩; rw [HI.out]; have kb2 := cell_keep hb2 (cell_keep (Below.refl _ _).drew kb); have hck2 := cell_keep hb2 (cell_keep (Below.refl _ _).drew hck); have T2 := Lib.hid ((T.out.keep (Below.refl _ _).drew).keep hb2); have HB2 : Hid (Below w1.heap.size w1 w2) := HBr.out.drew.trans (hb2.mono HBr.out.size); clear hb2) | (go_at_call 75; refine (l1Has_any _ _ _ _ T2.out).mono ?_; rintro e w' ⟨rfl, rfl⟩; rw [HH.out]))
              go_wp2
              go_roundw
              case rel => exact ⟨k + 1, by omega, by go_num, (fun j hj => by rcases Nat.lt_succ_iff_lt_or_eq.1 hj with h | h; exact HE.out j h; subst h; exact ⟨HI.out, HH.out⟩), HB2.out⟩
              case measure => simp [intOf]; omega
          · have hin' : inB (nth xs k) 0 ((L.length : Int) - 1) = false := by simpa using hin
            have HI := Lib.hid hin'
            clear hin hin' T
            go_wp2
            have kl := fun x : Later wr => x.cell kb
            have hl2 := fun x : Later wr => x.cell hck
            have hcall : Hid (∀ x : Later wr, Calls Try.prog 95 #[.agg #[.slice a0 L.length c0], .int .i64 (nth xs k)] x.at fun e w2 => e = .returned (.bool false) ∧ ∃ y : Later wr, w2 = y.at) :=
              fun x => Calls.later ((l1There_any _ _ _ _ (R.out.keep x.bel)).mono fun _ _ ⟨h1, h2⟩ => ⟨by rw [h1, HI.out], h2⟩)
            refine wp_region_later (by kernel_rfl) (by kernel_rfl) ?_
            repeat (go_big_quiet_step ((go_at_call 95; exact hcall.out _)))
            refine wpQuiet_nil ?_
            rintro _ ⟨x, rfl⟩
            have HB2 : Hid (Below w.heap.size w x.at) := HBw.out.trans (x.bel.mono HBw.out.size)
            clear kl hl2
            all_goals go_wp2
            all_goals go_ret
            all_goals exact ⟨ret_bool (by symm; rw [decide_eq_false_iff_not]; intro hp; have := (hp.2 k hlt).1; rw [HI.out] at this; exact absurd this (by simp)), HB2.out⟩
        · obtain rfl : k = xs.length := by omega
          go_wp2
          go_ret
          exact ⟨ret_bool (by symm; rw [decide_eq_true_iff]; exact ⟨HN.out, HE.out⟩), HB1.out.trans (hb.mono HB1.out.size)⟩
  · have hne : ((xs.length : Int) != (L.length : Int)) = true := by rw [bne_iff_ne]; omega
    have HE : Hid (decide (OrdP xs L.length) = false) := by show decide _ = false; rw [decide_eq_false_iff_not]; exact fun hp => hn hp.1
    obtain ⟨a1, c1, rfl⟩ := h1.slice
    clear hn
    go_enter Try.func87, Try.ntmps87
    go_wp2_with fail
    refine (l1Size_any _ _ _ hk).mono ?_
    rintro e w1 ⟨rfl, hb1⟩
    have HB1 : Hid (Below w.heap.size w w1) := HA.out.trans (hb1.mono (by simp))
    clear hb1
    go_wp2
    go_ret
    exact ⟨ret_bool HE.out.symm, HB1.out⟩

end Go.Proofs.Ytikfbfclbmlopaa

/- Walks: a number put into a rising row. -/
namespace Go.Proofs.Ytikfbfclbmlopaa
open Go.RowKit

theorem OwnRow.owns {T : TypeId} {w : World} {B : Nat} {v : Value} {xs : List Int} (h : OwnRow T w B v xs) : w.ownsRow B T 1 v xs.length (xs.map (Value.int .i64)) := by
  refine ⟨by simp, ?_⟩
  rcases h.2.2 with ⟨e, e'⟩ | ⟨g, cap, cur, e, hg, hh, l1, l2, hs, hc⟩
  · exact Or.inl ⟨e, by rw [e']; rfl⟩
  · refine Or.inr ⟨g, cap, cur, e, hg, hh, l1, l2, by omega, ?_⟩
    apply List.ext_getElem?
    intro i
    rw [List.getElem?_take, Nat.mul_one]
    by_cases hi : i < xs.length
    · rw [if_pos hi]
      have := hc i hi
      rw [nth_eq hi] at this
      simp [hi]
      simpa using this
    · rw [if_neg hi, List.getElem?_eq_none (by simp; omega)]

theorem drop_cells {w w2 : World} {b o : Nat} {xs : List Int} (hb : Below w.heap.size w w2) (hc : ∀ i, i < xs.length → w.cell? ⟨b, o + i, none⟩ = some (.int .i64 (nth xs i))) (k : Nat) : ∀ i, i < (xs.drop k).length → w2.cell? ⟨b, o + k + i, none⟩ = some (.int .i64 (nth (xs.drop k) i)) := by
  intro i hi
  rw [List.length_drop] at hi
  have h1 := cell_keep hb (hc (k + i) (by omega))
  have e : nth (xs.drop k) i = nth xs (k + i) := by simp [nth]
  rw [e, Nat.add_assoc]
  exact h1

/-- What putting x into a row does: k of its elements are less; the row itself if x follows them; else a new row. -/
def IntoPost (w : World) (v : Value) (xs : List Int) (x : Int) (e : Ending) (w' : World) : Prop :=
  ∃ k, k ≤ xs.length ∧ (∀ j, j < k → nth xs j < x) ∧
    ((k < xs.length ∧ nth xs k = x ∧ e = .returned v ∧ Below w.heap.size w w') ∨
     ((k = xs.length ∨ x < nth xs k) ∧ ∃ n a c, e = .returned (.slice a n c) ∧ OwnRow 2 w' w.heap.size (.slice a n c) (xs.take k ++ x :: xs.drop k) ∧ Below w.heap.size w w'))

set_option maxHeartbeats 2000000 in
set_option maxRecDepth 100000 in
theorem l1Into_any (v : Value) (xs : List Int) (x : Int) (w : World) (h : RowAt w v xs) (hx : I64 x) (hs : xs.length ≤ 1000000) : Calls Try.prog 131 #[v, .int .i64 x] w (IntoPost w v xs x) := by
  obtain ⟨i0, hi, hz0, hz1, hz2⟩ := info_parts Try.infoI
  by_cases h0 : xs.length = 0
  · have HX := Lib.hid hx
    have HL0 := Lib.hid h0
    rcases h.none_or h0 with rfl | ⟨ad, c, rfl⟩
    · have hrow : RowAt w (.slice none 0 0) [] := ⟨by simp, by simp, Or.inl ⟨rfl, none, 0, rfl, fun _ => rfl⟩⟩
      clear h h0 hs hx
      go_enter Try.func131, Try.ntmps131
      go_wp2
      refine wp_loop_rounds 1 ?_
      rw [rounds_succ]
      go_wp2_with fail
      refine (l1Copy_any _ [] _ (by exact hrow) (by simp)).mono ?_
      rintro e w1 ⟨n1, a1, c1, rfl, ho1, hb1⟩
      obtain rfl : n1 = 0 := by
        obtain ⟨a3, c3, e3⟩ := ho1.row.slice
        simp only [Value.slice.injEq] at e3
        simpa using e3.2.1
      have HO1 : Hid (w1.ownsRow w.heap.size 2 1 (.slice a1 0 c1) 0 []) := by show w1.ownsRow _ _ _ _ _ _; have := ho1.owns; simpa using this
      have HB1 := Lib.hid hb1
      clear ho1 hb1
      go_wp2_with (at_builtin; refine wpList_append_own _ rfl (.tmp 37) (.tmp 39) 34 rfl w.heap.size 2 i0 (.int .i64 0) 1 8 Try.underlying34 hi hz0 hz1 hz2 rfl (by decide) _ _ _ rfl (HO1.out.alloc _) ⟨w1.heap.size, 0, none⟩ 1 1 [.int .i64 x] rfl rfl ?d1 ?d2 ?d3 ?d4 ?d5 ?_)
      case d1 =>
        intro j u hj
        match j, hj with
        | 0, hj => simp at hj; subst hj; simp [Addr.add]
      case d2 => intro u hu; simp at hu; subst hu; rfl
      case d3 => simp; unfold maxLen; omega
      case d4 => simp
      case d5 => have := HB1.out.size; simp; omega
      intro v2 w2 hown2 hgrow2 _
      have hb2 : Below w.heap.size w w2 := by
        refine (HB1.out.alloc HB1.out.size _).grown hgrow2 (by have := HB1.out.size; simp; omega) (fun j hj => ?_)
        exact (HO1.out.lt j hj).1
      have HB2 := Lib.hid hb2
      have HO2 := Lib.hid hown2
      have hz2' : w.heap.size ≤ w2.heap.size := hb2.size
      clear hown2 hgrow2 hb2
      go_wp2_with (at_builtin; refine wpList_append_own_none rfl (.tmp 41) (.tmp 44) 34 rfl w.heap.size 2 i0 1 Try.underlying34 hi _ _ _ rfl HO2.out rfl ?_)
      have hro : OwnRow 2 w2 w.heap.size v2 [x] := OwnRow.of_ownsRow (n := 0 + 1) (by simpa using HO2.out) (by unfold maxLen; simp) (by intro z hz; simp at hz; subst hz; exact HX.out)
      obtain ⟨a4, c4, e4⟩ := hro.row.slice
      have HP : Hid (IntoPost w (.slice none 0 0) xs x (.returned v2) w2) := by
        refine ⟨0, Nat.zero_le _, fun j hj => absurd hj (by omega), Or.inr ⟨Or.inl HL0.out.symm, _, a4, c4, by rw [e4], ?_, HB2.out⟩⟩
        rw [← e4, List.length_eq_zero_iff.1 HL0.out]
        exact hro
      clear hro e4
      go_ret
      exact HP.out

    · have hrow : RowAt w (.slice (some ad) 0 c) [] := ⟨by simp, by simp, Or.inl ⟨rfl, some ad, c, rfl, fun h => by cases h⟩⟩
      clear h h0 hs hx
      go_enter Try.func131, Try.ntmps131
      go_wp2
      refine wp_loop_rounds 1 ?_
      rw [rounds_succ]
      go_wp2_with fail
      refine (l1Copy_any _ [] _ (by exact hrow) (by simp)).mono ?_
      rintro e w1 ⟨n1, a1, c1, rfl, ho1, hb1⟩
      obtain rfl : n1 = 0 := by
        obtain ⟨a3, c3, e3⟩ := ho1.row.slice
        simp only [Value.slice.injEq] at e3
        simpa using e3.2.1
      have HO1 : Hid (w1.ownsRow w.heap.size 2 1 (.slice a1 0 c1) 0 []) := by show w1.ownsRow _ _ _ _ _ _; have := ho1.owns; simpa using this
      have HB1 := Lib.hid hb1
      clear ho1 hb1
      go_wp2_with (at_builtin; refine wpList_append_own _ rfl (.tmp 37) (.tmp 39) 34 rfl w.heap.size 2 i0 (.int .i64 0) 1 8 Try.underlying34 hi hz0 hz1 hz2 rfl (by decide) _ _ _ rfl (HO1.out.alloc _) ⟨w1.heap.size, 0, none⟩ 1 1 [.int .i64 x] rfl rfl ?d1 ?d2 ?d3 ?d4 ?d5 ?_)
      case d1 =>
        intro j u hj
        match j, hj with
        | 0, hj => simp at hj; subst hj; simp [Addr.add]
      case d2 => intro u hu; simp at hu; subst hu; rfl
      case d3 => simp; unfold maxLen; omega
      case d4 => simp
      case d5 => have := HB1.out.size; simp; omega
      intro v2 w2 hown2 hgrow2 _
      have hb2 : Below w.heap.size w w2 := by
        refine (HB1.out.alloc HB1.out.size _).grown hgrow2 (by have := HB1.out.size; simp; omega) (fun j hj => ?_)
        exact (HO1.out.lt j hj).1
      have HB2 := Lib.hid hb2
      have HO2 := Lib.hid hown2
      have hz2' : w.heap.size ≤ w2.heap.size := hb2.size
      clear hown2 hgrow2 hb2

      go_wp2_with (at_builtin; refine wpList_append_own _ rfl (.tmp 41) (.tmp 44) 34 rfl w.heap.size 2 i0 (.int .i64 0) 1 8 Try.underlying34 hi hz0 hz1 hz2 rfl (by decide) _ _ _ rfl HO2.out ad 0 c [] rfl rfl ?f1 ?f2 ?f3 ?f4 ?f5 ?_)
      case f1 => intro j u hj; simp at hj
      case f2 => intro u hu; simp at hu
      case f3 => simp; unfold maxLen; omega
      case f4 => simp
      case f5 => exact hz2'
      intro v3 w3 hown3 hgrow3 _
      have hro : OwnRow 2 w3 w.heap.size v3 [x] := OwnRow.of_ownsRow (n := 0 + 1 + 0) (by simpa using hown3) (by unfold maxLen; simp) (by intro z hz; simp at hz; subst hz; exact HX.out)
      obtain ⟨a4, c4, e4⟩ := hro.row.slice
      have HP : Hid (IntoPost w (.slice (some ad) 0 c) xs x (.returned v3) w3) := by
        refine ⟨0, Nat.zero_le _, fun j hj => absurd hj (by omega), Or.inr ⟨Or.inl HL0.out.symm, _, a4, c4, by rw [e4], ?_, HB2.out.grown hgrow3 hz2' (fun j hj => (HO2.out.lt j hj).1)⟩⟩
        rw [← e4, List.length_eq_zero_iff.1 HL0.out]
        exact hro
      clear hown3 hgrow3 hro e4
      go_wp2
      go_ret
      exact HP.out
  · obtain ⟨b, o, c, rfl, l1, l2, hc⟩ := h.pos (by omega)
    have HC := Lib.hid hc
    have HR := Lib.hid h
    have HX := Lib.hid hx
    clear hc hx
    go_enter Try.func131, Try.ntmps131
    go_wp2
    go_loop [5] (fun i => ∃ k : Nat, k ≤ xs.length ∧ i = .int .i64 k ∧ (∀ j, j < k → nth xs j < x)) (fun i => xs.length - (intOf i).toNat)
    case atStart => exact ⟨0, Nat.zero_le _, rfl, (fun j hj => absurd hj (by omega))⟩
    case round =>
      obtain ⟨k, hk, rfl, he⟩ := hrel
      have HE := Lib.hid he
      clear he
      by_cases hlt : k < xs.length
      · have hck := HC.out k hlt
        by_cases hlx : nth xs k < x
        · have hd : decide (nth xs k < x) = true := by simpa using hlx
          have HLX := Lib.hid hlx
          clear hlx
          go_wp2
          go_round
          case rel => exact ⟨k + 1, by omega, by go_num, (fun j hj => by rcases Nat.lt_succ_iff_lt_or_eq.1 hj with h | h; exact HE.out j h; rw [h]; exact HLX.out)⟩
          case measure => simp [intOf]; omega
        · have hd : decide (nth xs k < x) = false := by simpa using hlx
          by_cases heq : nth xs k = x
          · have hb : (nth xs k == x) = true := by simpa using heq
            have HQ := Lib.hid heq
            clear hlx heq
            go_wp2
            go_ret
            exact ⟨k, hk, HE.out, Or.inl ⟨hlt, HQ.out, rfl, Below.refl _ _⟩⟩
          · have hb : (nth xs k == x) = false := by simpa using heq
            have HQ : Hid (x < nth xs k) := by show x < _; omega
            clear hlx heq
            go_wp2_with fail
            refine (l1Copy_any _ (xs.take k) _ (HR.out.take HC.out l2 l1 k hk) (by simp; omega)).mono ?_
            rintro e w1 ⟨n1, a1, c1, rfl, ho1, hb1⟩
            have hn1 : n1 = (xs.take k).length := by
              obtain ⟨a3, c3, e3⟩ := ho1.row.slice
              simp only [Value.slice.injEq] at e3
              exact e3.2.1
            have HO1 := Lib.hid ho1.owns
            have HR1 := Lib.hid ho1
            have HB1 := Lib.hid hb1
            have HN1 := Lib.hid hn1
            have hpl : (xs.take k).length ≤ 1000000 := by simp; omega
            obtain ⟨pl, hpl2⟩ : ∃ q, q = (xs.take k).length := ⟨_, rfl⟩
            rw [← hpl2] at hpl
            have HPL := Lib.hid hpl2
            clear ho1 hb1 hn1 hpl2
            go_wp2_with (at_builtin; refine wpList_append_own _ rfl (.tmp 37) (.tmp 39) 34 rfl w.heap.size 2 i0 (.int .i64 0) 1 8 Try.underlying34 hi hz0 hz1 hz2 rfl (by decide) _ _ _ rfl (HO1.out.alloc _) ⟨w1.heap.size, 0, none⟩ 1 1 [.int .i64 x] rfl rfl ?d1 ?d2 ?d3 ?d4 ?d5 ?_)
            case d1 =>
              intro j u hj
              match j, hj with
              | 0, hj => simp at hj; subst hj; simp [Addr.add]
            case d2 => intro u hu; simp at hu; subst hu; rfl
            case d3 => rw [← HPL.out]; unfold maxLen; omega
            case d4 => rw [← HPL.out]; omega
            case d5 => have := HB1.out.size; simp; omega
            intro v2 w2 hown2 hgrow2 _
            have hb2 : Below w.heap.size w w2 := by
              refine (HB1.out.alloc HB1.out.size _).grown hgrow2 (by have := HB1.out.size; simp; omega) (fun j hj => ?_)
              exact (HO1.out.lt j hj).1
            have HB2 := Lib.hid hb2
            have HO2 := Lib.hid hown2
            have hz2' : w.heap.size ≤ w2.heap.size := hb2.size
            clear hown2 hgrow2 hb2
            go_wp2_with (at_builtin; refine wpList_append_own _ rfl (.tmp 41) (.tmp 44) 34 rfl w.heap.size 2 i0 (.int .i64 0) 1 8 Try.underlying34 hi hz0 hz1 hz2 rfl (by decide) _ _ _ rfl HO2.out ⟨b, o + k, none⟩ (xs.length - k) (c - k) ((xs.drop k).map (Value.int .i64)) rfl (by simp) ?e1 ?e2 ?e3 ?e4 ?e5 ?_)
            case e1 => exact row_news (drop_cells HB2.out HC.out k)
            case e2 => exact ints_one _
            case e3 => first | (rw [← HPL.out]; unfold maxLen; omega) | (unfold maxLen; omega)
            case e4 => first | (rw [← HPL.out]; omega) | omega
            case e5 => exact hz2'
            intro v3 w3 hown3 hgrow3 _
            have hro : OwnRow 2 w3 w.heap.size v3 ((xs.take k) ++ x :: (xs.drop k)) := by
              refine OwnRow.of_ownsRow (n := k + 1 + (xs.length - k)) (by simpa using hown3) (by simp; unfold maxLen; omega) ?_
              intro z hz
              simp only [List.mem_append, List.mem_cons] at hz
              rcases hz with hz | rfl | hz
              · exact HR.out.1 z (List.mem_of_mem_take hz)
              · exact HX.out
              · exact HR.out.1 z (by first | exact List.mem_of_mem_drop hz | (simp at hz))
            obtain ⟨a4, c4, e4⟩ := hro.row.slice
            have HP : Hid (IntoPost w (.slice (some ⟨b, o, none⟩) xs.length c) xs x (.returned v3) w3) :=
              ⟨k, by omega, HE.out, Or.inr ⟨Or.inr HQ.out, _, a4, c4, by rw [e4], by rw [← e4]; first | exact hro | simpa using hro, HB2.out.grown hgrow3 hz2' (fun j hj => (HO2.out.lt j hj).1)⟩⟩
            clear hown3 hgrow3 hro e4
            go_wp2
            go_ret
            exact HP.out
      · obtain rfl : k = xs.length := by omega
        by_cases hcl : c = xs.length
        · subst hcl
          go_wp2_with fail
          refine (l1Copy_any _ (xs.take xs.length) _ (HR.out.take HC.out l2 l1 xs.length (Nat.le_refl _)) (by simp; omega)).mono ?_
          rintro e w1 ⟨n1, a1, c1, rfl, ho1, hb1⟩
          have hn1 : n1 = (xs.take xs.length).length := by
            obtain ⟨a3, c3, e3⟩ := ho1.row.slice
            simp only [Value.slice.injEq] at e3
            exact e3.2.1
          have HO1 := Lib.hid ho1.owns
          have HR1 := Lib.hid ho1
          have HB1 := Lib.hid hb1
          have HN1 := Lib.hid hn1
          have hpl : (xs.take xs.length).length ≤ 1000000 := by simp; omega
          obtain ⟨pl, hpl2⟩ : ∃ q, q = (xs.take xs.length).length := ⟨_, rfl⟩
          rw [← hpl2] at hpl
          have HPL := Lib.hid hpl2
          clear ho1 hb1 hn1 hpl2
          go_wp2_with (at_builtin; refine wpList_append_own _ rfl (.tmp 37) (.tmp 39) 34 rfl w.heap.size 2 i0 (.int .i64 0) 1 8 Try.underlying34 hi hz0 hz1 hz2 rfl (by decide) _ _ _ rfl (HO1.out.alloc _) ⟨w1.heap.size, 0, none⟩ 1 1 [.int .i64 x] rfl rfl ?d1 ?d2 ?d3 ?d4 ?d5 ?_)
          case d1 =>
            intro j u hj
            match j, hj with
            | 0, hj => simp at hj; subst hj; simp [Addr.add]
          case d2 => intro u hu; simp at hu; subst hu; rfl
          case d3 => rw [← HPL.out]; unfold maxLen; omega
          case d4 => rw [← HPL.out]; omega
          case d5 => have := HB1.out.size; simp; omega
          intro v2 w2 hown2 hgrow2 _
          have hb2 : Below w.heap.size w w2 := by
            refine (HB1.out.alloc HB1.out.size _).grown hgrow2 (by have := HB1.out.size; simp; omega) (fun j hj => ?_)
            exact (HO1.out.lt j hj).1
          have HB2 := Lib.hid hb2
          have HO2 := Lib.hid hown2
          have hz2' : w.heap.size ≤ w2.heap.size := hb2.size
          clear hown2 hgrow2 hb2
          go_wp2_with (at_builtin; refine wpList_append_own _ rfl (.tmp 41) (.tmp 44) 34 rfl w.heap.size 2 i0 (.int .i64 0) 1 8 Try.underlying34 hi hz0 hz1 hz2 rfl (by decide) _ _ _ rfl HO2.out ⟨b, o, none⟩ 0 (0) [] rfl rfl ?e1 ?e2 ?e3 ?e4 ?e5 ?_)
          case e1 => intro j u hj; simp at hj
          case e2 => intro u hu; simp at hu
          case e3 => first | (rw [← HPL.out]; unfold maxLen; omega) | (unfold maxLen; omega)
          case e4 => first | (rw [← HPL.out]; omega) | omega
          case e5 => exact hz2'
          intro v3 w3 hown3 hgrow3 _
          have hro : OwnRow 2 w3 w.heap.size v3 ((xs.take xs.length) ++ x :: []) := by
            refine OwnRow.of_ownsRow (n := xs.length + 1 + 0) (by simpa using hown3) (by simp; unfold maxLen; omega) ?_
            intro z hz
            simp only [List.mem_append, List.mem_cons] at hz
            rcases hz with hz | rfl | hz
            · exact HR.out.1 z (List.mem_of_mem_take hz)
            · exact HX.out
            · exact HR.out.1 z (by first | exact List.mem_of_mem_drop hz | (simp at hz))
          obtain ⟨a4, c4, e4⟩ := hro.row.slice
          have HP : Hid (IntoPost w (.slice (some ⟨b, o, none⟩) xs.length xs.length) xs x (.returned v3) w3) :=
            ⟨xs.length, Nat.le_refl _, HE.out, Or.inr ⟨Or.inl rfl, _, a4, c4, by rw [e4], by rw [← e4]; first | exact hro | simpa using hro, HB2.out.grown hgrow3 hz2' (fun j hj => (HO2.out.lt j hj).1)⟩⟩
          clear hown3 hgrow3 hro e4
          go_wp2
          go_ret
          exact HP.out
        · have hcl2 : xs.length < c := by omega
          have hcb : ((xs.length : Int) == (c : Int)) = false := by simp; omega
          go_wp2_with fail
          refine (l1Copy_any _ (xs.take xs.length) _ (HR.out.take HC.out l2 l1 xs.length (Nat.le_refl _)) (by simp; omega)).mono ?_
          rintro e w1 ⟨n1, a1, c1, rfl, ho1, hb1⟩
          have hn1 : n1 = (xs.take xs.length).length := by
            obtain ⟨a3, c3, e3⟩ := ho1.row.slice
            simp only [Value.slice.injEq] at e3
            exact e3.2.1
          have HO1 := Lib.hid ho1.owns
          have HR1 := Lib.hid ho1
          have HB1 := Lib.hid hb1
          have HN1 := Lib.hid hn1
          have hpl : (xs.take xs.length).length ≤ 1000000 := by simp; omega
          obtain ⟨pl, hpl2⟩ : ∃ q, q = (xs.take xs.length).length := ⟨_, rfl⟩
          rw [← hpl2] at hpl
          have HPL := Lib.hid hpl2
          clear ho1 hb1 hn1 hpl2
          go_wp2_with (at_builtin; refine wpList_append_own _ rfl (.tmp 37) (.tmp 39) 34 rfl w.heap.size 2 i0 (.int .i64 0) 1 8 Try.underlying34 hi hz0 hz1 hz2 rfl (by decide) _ _ _ rfl (HO1.out.alloc _) ⟨w1.heap.size, 0, none⟩ 1 1 [.int .i64 x] rfl rfl ?d1 ?d2 ?d3 ?d4 ?d5 ?_)
          case d1 =>
            intro j u hj
            match j, hj with
            | 0, hj => simp at hj; subst hj; simp [Addr.add]
          case d2 => intro u hu; simp at hu; subst hu; rfl
          case d3 => rw [← HPL.out]; unfold maxLen; omega
          case d4 => rw [← HPL.out]; omega
          case d5 => have := HB1.out.size; simp; omega
          intro v2 w2 hown2 hgrow2 _
          have hb2 : Below w.heap.size w w2 := by
            refine (HB1.out.alloc HB1.out.size _).grown hgrow2 (by have := HB1.out.size; simp; omega) (fun j hj => ?_)
            exact (HO1.out.lt j hj).1
          have HB2 := Lib.hid hb2
          have HO2 := Lib.hid hown2
          have hz2' : w.heap.size ≤ w2.heap.size := hb2.size
          clear hown2 hgrow2 hb2
          go_wp2_with (at_builtin; refine wpList_append_own _ rfl (.tmp 41) (.tmp 44) 34 rfl w.heap.size 2 i0 (.int .i64 0) 1 8 Try.underlying34 hi hz0 hz1 hz2 rfl (by decide) _ _ _ rfl HO2.out ⟨b, o + xs.length, none⟩ 0 (c - xs.length) [] rfl rfl ?e1 ?e2 ?e3 ?e4 ?e5 ?_)
          case e1 => intro j u hj; simp at hj
          case e2 => intro u hu; simp at hu
          case e3 => first | (rw [← HPL.out]; unfold maxLen; omega) | (unfold maxLen; omega)
          case e4 => first | (rw [← HPL.out]; omega) | omega
          case e5 => exact hz2'
          intro v3 w3 hown3 hgrow3 _
          have hro : OwnRow 2 w3 w.heap.size v3 ((xs.take xs.length) ++ x :: []) := by
            refine OwnRow.of_ownsRow (n := xs.length + 1 + 0) (by simpa using hown3) (by simp; unfold maxLen; omega) ?_
            intro z hz
            simp only [List.mem_append, List.mem_cons] at hz
            rcases hz with hz | rfl | hz
            · exact HR.out.1 z (List.mem_of_mem_take hz)
            · exact HX.out
            · exact HR.out.1 z (by first | exact List.mem_of_mem_drop hz | (simp at hz))
          obtain ⟨a4, c4, e4⟩ := hro.row.slice
          have HP : Hid (IntoPost w (.slice (some ⟨b, o, none⟩) xs.length c) xs x (.returned v3) w3) :=
            ⟨xs.length, Nat.le_refl _, HE.out, Or.inr ⟨Or.inl rfl, _, a4, c4, by rw [e4], by rw [← e4]; first | exact hro | simpa using hro, HB2.out.grown hgrow3 hz2' (fun j hj => (HO2.out.lt j hj).1)⟩⟩
          clear hown3 hgrow3 hro e4
          go_wp2
          go_ret
          exact HP.out

end Go.Proofs.Ytikfbfclbmlopaa
