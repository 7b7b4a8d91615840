/- Walks of the laws' own helpers: marks of graphs; looking whether marks are held. -/
import Derived.Test.YtjbfoiolcpigfaaD2
namespace Go.Proofs.Ytjbfoiolcpigfaa
open Go.RowKit

theorem Touched.alloc {B U : Nat} {w w' : World} (h : Touched B U w w') (o : Obj) : Touched B U w (w'.alloc o) :=
  h.trans (Touched.ofBelow ((Below.refl _ _).alloc (Nat.le_refl _) _))

set_option maxHeartbeats 400000 in
theorem markGraph_any (v : Value) (L : List (List Int)) (B U : Nat) (k : Int) (w : World) (h : OwnGridU 2 26 w B U v L) (h0 : 0 ≤ k) (h1 : k ≤ 100000000000000) (hs : Small L) :
    Calls Try.prog 11 #[.agg #[v], .int .i64 k] w (MarkedGrid w B U v L k) := by
  obtain ⟨a, c, rfl⟩ := h.own.grid.slice
  have ha : Below w.heap.size w (w.alloc (.cells #[.slice a L.length c] 28)) := (Below.refl _ _).alloc (Nat.le_refl _) _
  have hk := h.keep ha
  have HA := Lib.hid ha
  clear ha
  go_enter Try.func11, Try.ntmps11
  go_wp2_with fail
  refine (markInt64SS_any _ _ _ _ _ _ hk h0 h1 hs).mono ?_
  rintro e w' ⟨rfl, hg, ht⟩
  have HP : Hid (MarkedGrid w B U (.slice a L.length c) L k (.returned (.int .i64 (k + totTo L L.length))) w') := ⟨rfl, hg, (Touched.ofBelow HA.out).trans ht⟩
  clear hg ht
  go_wp2
  go_ret
  exact HP.out

set_option maxHeartbeats 400000 in
theorem heldInt64S_any (v : Value) (n : Nat) (k : Int) (w : World) (h : RowAt w v (seqFrom k n)) (h0 : 0 ≤ k) (h1 : k + n ≤ 1000000000000000) :
    Calls Try.prog 13 #[v, .int .i64 k] w fun e w' => e = .returned (.int .i64 (k + n)) ∧ w = w' := by
  by_cases hn : n = 0
  · subst hn
    obtain ⟨a, c, rfl⟩ := h.zero (by simp [seqFrom])
    have HE : Hid (k + ((0 : Nat) : Int) = k) := by show _ = _; simp
    clear h h1
    go_enter Try.func13, Try.ntmps13
    go_wp2
    refine wp_loop_rounds 1 ?_
    rw [rounds_succ]
    go_wp2
    go_ret
    exact ⟨ret_int HE.out.symm, rfl⟩
  · obtain ⟨b, o, c, e, l1, l2, hc⟩ := h.pos (by rw [seqFrom_len]; omega)
    rw [seqFrom_len] at e l1 hc
    subst e
    have HC : Hid (∀ i, i < n → w.cell? ⟨b, o + i, none⟩ = some (.int .i64 (k + i))) := fun i hi => by rw [hc i hi, seqFrom_nth k hi]
    clear h hc hn
    go_enter Try.func13, Try.ntmps13
    go_wp2
    go_loop [1, 5] (fun q i => ∃ j : Nat, j ≤ n ∧ i = .int .i64 j ∧ q = .int .i64 (k + j)) (fun _ i => n - (intOf i).toNat)
    case atStart => exact ⟨0, Nat.zero_le _, rfl, by simp⟩
    case round =>
      obtain ⟨j, hj, rfl, rfl⟩ := hrel
      by_cases hlt : j < n
      · have hck := HC.out j hlt
        have hk2 : k + (j : Int) ≤ 1000000000000000 := by omega
        have hne : ((k + (j : Int)) != (k + (j : Int))) = false := by simp
        go_wp2
        go_round
        case rel => exact ⟨j + 1, by omega, by go_num, by go_num⟩
        case measure => simp [intOf]; omega
      · obtain rfl : j = n := by omega
        go_wp2
        go_ret
        exact ⟨rfl, rfl⟩

theorem heldInt64S_b (v : Value) (n : Nat) (k : Int) (w : World) (h : RowAt w v (seqFrom k n)) (h0 : 0 ≤ k) (h1 : k + n ≤ 1000000000000000) :
    Calls Try.prog 13 #[v, .int .i64 k] w fun e w' => e = .returned (.int .i64 (k + n)) ∧ Below w.heap.size w w' :=
  (heldInt64S_any v n k w h h0 h1).mono fun _ _ ⟨h1, h2⟩ => ⟨h1, by rw [h2]; exact Below.refl _ _⟩
end Go.Proofs.Ytjbfoiolcpigfaa
