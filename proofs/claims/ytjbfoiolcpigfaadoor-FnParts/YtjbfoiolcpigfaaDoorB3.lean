/- Walks: nets. -/
import Derived.Test.YtjbfoiolcpigfaaDoorB2
namespace Go.Proofs.YtjbfoiolcpigfaaDoor
open Go.RowKit

/-- No vertex is its own neighbour; all neighbours of the first n are mutual. -/
def SimpleAt (M : Nat → Nat) (v : Nat) : Prop := hasM (M v) v = false ∧ ∀ u, u < v → hasM (M u) v = hasM (M v) u
instance (M : Nat → Nat) (v : Nat) : Decidable (SimpleAt M v) := by unfold SimpleAt; infer_instance
def SimpleP (n : Nat) (M : Nat → Nat) : Prop := ∀ v, v < n → SimpleAt M v
instance (n : Nat) (M : Nat → Nat) : Decidable (SimpleP n M) := by unfold SimpleP; infer_instance

/-- Block b holds a net: n vertices, masks M. -/
def NetAt (w : World) (b n : Nat) (M : Nat → Nat) : Prop :=
  w.cell? ⟨b, 0, none⟩ = some (.int .i64 n) ∧ ∀ i, i < 16 → w.cell? ⟨b, 1 + i, none⟩ = some (.int .u32 (M i : Int))
theorem NetAt.keep {w w' : World} {b n : Nat} {M : Nat → Nat} (h : NetAt w b n M) (hb : Below w.heap.size w w') : NetAt w' b n M :=
  ⟨cell_keep hb h.1, fun i hi => cell_keep hb (h.2 i hi)⟩
theorem NetAt.drawn {w w' : World} {b n : Nat} {M : Nat → Nat} (h : NetAt w b n M) (hb : Drawn w w') : NetAt w' b n M := h.keep (hb.below _)

set_option maxHeartbeats 800000 in
theorem simple_any (b n : Nat) (M : Nat → Nat) (w : World) (h : NetAt w b n M) (hn : n ≤ 16) (hM : ∀ i, i < n → M i < 65536) :
    Calls Tryd.prog 120 #[.pointer (some ⟨b, 0, none⟩)] w fun e w' => e = .returned (.bool (decide (SimpleP n M))) ∧ Drawn w w' := by
  have hn0 := h.1
  have H := Lib.hid h
  have HM := Lib.hid hM
  clear h hM
  go_enter Tryd.func120, Tryd.ntmps120
  go_wp2
  go_loopw [9] (fun i wr => ∃ k : Nat, k ≤ n ∧ i = .int .i64 k ∧ (∀ j, j < k → SimpleAt M j) ∧ Drawn w wr) (fun i _ => n - (intOf i).toNat)
  case atStart => exact ⟨0, Nat.zero_le _, rfl, (fun j hj => absurd hj (by omega)), Drawn.refl _⟩
  case round =>
    obtain ⟨k, hk, rfl, he, hd⟩ := hrel
    have HE := Lib.hid he
    clear he hn0
    by_cases hlt : k < n
    · have hck := cell_drawn hd (H.out.2 k (by omega))
      have hk16 : (k : Int) < 16 := by omega
      have hMk := HM.out k hlt
      go_wp2_with fail
      refine (has_any _ _ _ hMk).mono ?_
      rintro e w' ⟨rfl, rfl⟩
      by_cases hs : hasM (M k) k = true
      · have HS := Lib.hid hs
        rw [hs]
        clear hs
        go_wp2
        go_ret
        exact ⟨ret_bool (by symm; rw [decide_eq_false_iff_not]; intro h1; have := (h1 k hlt).1; rw [HS.out] at this; exact absurd this (by simp)), hd⟩
      · have hs' : hasM (M k) k = false := by simpa using hs
        have HS := Lib.hid hs'
        rw [hs']
        clear hs hs'
        have HD := Lib.hid hd
        go_wp2
        go_loopw [21] (fun i w3 => ∃ q : Nat, q ≤ k ∧ i = .int .i64 q ∧ (∀ j, j < q → hasM (M j) k = hasM (M k) j) ∧ Drawn wr w3) (fun i _ => k - (intOf i).toNat)
        case atStart => exact ⟨0, Nat.zero_le _, rfl, (fun j hj => absurd hj (by omega)), Drawn.refl _⟩
        case round =>
          rename World => w3
          obtain ⟨q, hq, rfl, hf, hd3⟩ := hrel
          have HF := Lib.hid hf
          clear hf
          by_cases hql : q < k
          · have hcq := cell_drawn (HD.out.trans hd3) (H.out.2 q (by omega))
            have hck3 := cell_drawn hd3 hck
            have hq16 : (q : Int) < 16 := by omega
            have hMq := HM.out q (by omega)
            have call1 : Hid (∀ m, Calls Tryd.prog 106 #[.int .u32 (M q : Int), .int .i64 (k : Int)] (w3.drewN m) fun e w4 => e = .returned (.bool (hasM (M q) k)) ∧ w4 = w3.drewN m) :=
              fun m => (has_any _ _ _ hMq).mono fun _ _ ⟨h1, h2⟩ => ⟨h1, h2.symm⟩
            have call2 : Hid (∀ m, Calls Tryd.prog 106 #[.int .u32 (M k : Int), .int .i64 (q : Int)] (w3.drewN m) fun e w4 => e = .returned (.bool (hasM (M k) q)) ∧ w4 = w3.drewN m) :=
              fun m => (has_any _ _ _ hMk).mono fun _ _ ⟨h1, h2⟩ => ⟨h1, h2.symm⟩
            by_cases hx : hasM (M q) k = hasM (M k) q
            · have hxb : (hasM (M q) k == hasM (M k) q) = true := by rw [hx]; simp
              have HX := Lib.hid hx
              clear hx
              go_wp2
              go_quiet ((first | (go_at_call_of 106 (M q); exact Calls.quiet_of_same (call1.out _)) | (go_at_call_of 106 (M k); exact Calls.quiet_of_same (call2.out _))))
              go_wp2
              go_roundw
              case rel => exact ⟨q + 1, by omega, by go_num, (fun j hj => by rcases Nat.lt_succ_iff_lt_or_eq.1 hj with h | h; exact HF.out j h; subst h; exact HX.out), hd3.more _⟩
              case measure => simp [intOf]; omega
            · have hxb : (hasM (M q) k == hasM (M k) q) = false := by simpa using hx
              have HX := Lib.hid hx
              clear hx
              go_wp2
              go_quiet ((first | (go_at_call_of 106 (M q); exact Calls.quiet_of_same (call1.out _)) | (go_at_call_of 106 (M k); exact Calls.quiet_of_same (call2.out _))))
              go_wp2
              go_ret
              exact ⟨ret_bool (by symm; rw [decide_eq_false_iff_not]; intro h1; exact HX.out ((h1 k hlt).2 q hql)), HD.out.trans (hd3.more _)⟩
          · obtain rfl : q = k := by omega
            go_wp2
            go_roundw
            case rel => exact ⟨q + 1, by omega, by go_num, (fun j hj => by rcases Nat.lt_succ_iff_lt_or_eq.1 hj with h | h; exact HE.out j h; subst h; exact ⟨HS.out, HF.out⟩), HD.out.trans hd3⟩
            case measure => simp [intOf]; omega
    · obtain rfl : k = n := by omega
      go_wp2
      go_ret
      exact ⟨ret_bool (by symm; rw [decide_eq_true_iff]; exact HE.out), hd⟩

end Go.Proofs.YtjbfoiolcpigfaaDoor
