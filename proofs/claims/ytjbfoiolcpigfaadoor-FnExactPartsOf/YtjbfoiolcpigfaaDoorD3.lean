/- Walks of the laws' own helpers: marks of graphs; looking whether marks are held. -/
import Derived.Test.YtjbfoiolcpigfaaDoorD2
namespace Go.Proofs.YtjbfoiolcpigfaaDoor
open Go.RowKit

theorem Touched.alloc {B U : Nat} {w w' : World} (h : Touched B U w w') (o : Obj) : Touched B U w (w'.alloc o) :=
  h.trans (Touched.ofBelow ((Below.refl _ _).alloc (Nat.le_refl _) _))

set_option maxHeartbeats 400000 in
theorem markGraph_any (v : Value) (L : List (List Int)) (B U : Nat) (k : Int) (w : World) (h : OwnGridU 2 36 w B U v L) (h0 : 0 ≤ k) (h1 : k ≤ 100000000000000) (hs : Small L) :
    Calls Tryd.prog 56 #[.agg #[v], .int .i64 k] w (MarkedGrid w B U v L k) := by
  obtain ⟨a, c, rfl⟩ := h.own.grid.slice
  have ha : Below w.heap.size w (w.alloc (.cells #[.slice a L.length c] 29)) := (Below.refl _ _).alloc (Nat.le_refl _) _
  have hk := h.keep ha
  have HA := Lib.hid ha
  clear ha
  go_enter Tryd.func56, Tryd.ntmps56
  go_wp2_with fail
  refine (markInt64SS_any _ _ _ _ _ _ hk h0 h1 hs).mono ?_
  rintro e w' ⟨rfl, hg, ht⟩
  have HP : Hid (MarkedGrid w B U (.slice a L.length c) L k (.returned (.int .i64 (k + totTo L L.length))) w') := ⟨rfl, hg, (Touched.ofBelow HA.out).trans ht⟩
  clear hg ht
  go_wp2
  go_ret
  exact HP.out

set_option maxHeartbeats 400000 in
theorem heldInt64S_any (v : Value) (n : Nat) (k : Int) (w : World) (h : RowAt w v (seqFrom k n)) (h0 : 0 ≤ k) (h1 : k + n ≤ 1000000000000000) :
    Calls Tryd.prog 58 #[v, .int .i64 k] w fun e w' => e = .returned (.int .i64 (k + n)) ∧ w = w' := by
  by_cases hn : n = 0
  · subst hn
    obtain ⟨a, c, rfl⟩ := h.zero (by simp [seqFrom])
    have HE : Hid (k + ((0 : Nat) : Int) = k) := by show _ = _; simp
    clear h h1
    go_enter Tryd.func58, Tryd.ntmps58
    go_wp2
    refine wp_loop_rounds 1 ?_
    rw [rounds_succ]
    go_wp2
    go_ret
    exact ⟨ret_int HE.out.symm, rfl⟩
  · obtain ⟨b, o, c, e, l1, l2, hc⟩ := h.pos (by rw [seqFrom_len]; omega)
    rw [seqFrom_len] at e l1 hc
    subst e
    have HC : Hid (∀ i, i < n → w.cell? ⟨b, o + i, none⟩ = some (.int .i64 (k + i))) := fun i hi => by rw [hc i hi, seqFrom_nth k hi]
    clear h hc hn
    go_enter Tryd.func58, Tryd.ntmps58
    go_wp2
    go_loop [1, 5] (fun q i => ∃ j : Nat, j ≤ n ∧ i = .int .i64 j ∧ q = .int .i64 (k + j)) (fun _ i => n - (intOf i).toNat)
    case atStart => exact ⟨0, Nat.zero_le _, rfl, by simp⟩
    case round =>
      obtain ⟨j, hj, rfl, rfl⟩ := hrel
      by_cases hlt : j < n
      · have hck := HC.out j hlt
        have hk2 : k + (j : Int) ≤ 1000000000000000 := by omega
        have hne : ((k + (j : Int)) != (k + (j : Int))) = false := by simp
        go_wp2
        go_round
        case rel => exact ⟨j + 1, by omega, by go_num, by go_num⟩
        case measure => simp [intOf]; omega
      · obtain rfl : j = n := by omega
        go_wp2
        go_ret
        exact ⟨rfl, rfl⟩

set_option maxHeartbeats 400000 in
theorem heldInt64SS_any (v : Value) (L : List (List Int)) (k : Int) (w : World) (h : GridAt w v (marksG L k)) (h0 : 0 ≤ k) (h1 : k ≤ 100000000000000) (hs : Small L) :
    Calls Tryd.prog 61 #[v, .int .i64 k] w fun e w' => e = .returned (.int .i64 (k + totTo L L.length)) ∧ w = w' := by
  have HT := Lib.hid (totTo_le hs.2)
  have hsl := hs.1
  have HSm := Lib.hid hs
  clear hs
  by_cases hn : L.length = 0
  · have HE : Hid (k + (totTo L L.length : Int) = k) := by show _ = _; rw [hn]; simp [totTo]
    obtain ⟨a, c, rfl⟩ := h.zero (by rw [marksG_len]; exact hn)
    clear h hn
    go_enter Tryd.func61, Tryd.ntmps61
    go_wp2
    refine wp_loop_rounds 1 ?_
    rw [rounds_succ]
    go_wp2
    go_ret
    exact ⟨ret_int HE.out.symm, rfl⟩
  · obtain ⟨b, o, c, A, C, e, l1, l2, hc⟩ := h.pos (by rw [marksG_len]; omega)
    rw [marksG_len] at e l1 hc
    subst e
    have HC := Lib.hid hc
    clear h hc hn
    go_enter Tryd.func61, Tryd.ntmps61
    go_wp2
    go_loop [1, 5] (fun q i => ∃ j : Nat, j ≤ L.length ∧ i = .int .i64 j ∧ q = .int .i64 (k + totTo L j)) (fun _ i => L.length - (intOf i).toNat)
    case atStart => exact ⟨0, Nat.zero_le _, rfl, by simp [totTo]⟩
    case round =>
      obtain ⟨j, hj, rfl, rfl⟩ := hrel
      have htj := HT.out j hj
      have htj2 : 1048576 * j ≤ 1048576 * 1048576 := by omega
      by_cases hlt : j < L.length
      · have hck := (HC.out j hlt).1
        have hrow := (HC.out j hlt).2
        rw [marksG_nth L k hlt] at hck hrow
        have hrs := HSm.out.2 j hlt
        have hts : totTo L (j + 1) = totTo L j + (nthR L j).length := rfl
        have HTS := Lib.hid hts
        have hpos : 0 ≤ k + (totTo L j : Int) + ((nthR L j).length : Int) := by omega
        clear hts
        go_wp2_with fail
        refine (heldInt64S_any _ _ _ _ hrow (by omega) (by omega)).mono ?_
        rintro e w' ⟨rfl, rfl⟩
        go_wp2
        go_round
        case rel => exact ⟨j + 1, by omega, by go_num, by rw [HTS.out]; go_num⟩
        case measure => simp [intOf]; omega
      · obtain rfl : j = L.length := by omega
        go_wp2
        go_ret
        exact ⟨rfl, rfl⟩

theorem heldInt64S_b (v : Value) (n : Nat) (k : Int) (w : World) (h : RowAt w v (seqFrom k n)) (h0 : 0 ≤ k) (h1 : k + n ≤ 1000000000000000) :
    Calls Tryd.prog 58 #[v, .int .i64 k] w fun e w' => e = .returned (.int .i64 (k + n)) ∧ Below w.heap.size w w' :=
  (heldInt64S_any v n k w h h0 h1).mono fun _ _ ⟨h1, h2⟩ => ⟨h1, by rw [h2]; exact Below.refl _ _⟩
theorem heldInt64SS_b (v : Value) (L : List (List Int)) (k : Int) (w : World) (h : GridAt w v (marksG L k)) (h0 : 0 ≤ k) (h1 : k ≤ 100000000000000) (hs : Small L) :
    Calls Tryd.prog 61 #[v, .int .i64 k] w fun e w' => e = .returned (.int .i64 (k + totTo L L.length)) ∧ Below w.heap.size w w' :=
  (heldInt64SS_any v L k w h h0 h1 hs).mono fun _ _ ⟨h1, h2⟩ => ⟨h1, by rw [h2]; exact Below.refl _ _⟩

end Go.Proofs.YtjbfoiolcpigfaaDoor
