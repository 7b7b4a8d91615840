/- Walks: DecompBy, of the program: where a row first holds one of a set. -/
import Derived.Test.YtohjfcfcopbmoaaDB2
import Derived.Test.YtohjfcfcopbmoaaQER6
import Derived.Deep.RegionHeld3
import Derived.Shelf.Abstract

namespace Go.Proofs.Ytohjfcfcopbmoaa
open Go.RowKit

/-- The place of the first of xs that the set M holds; -1 where there is none. -/
def idxM (M : Nat) (xs : List Int) : Int := if xs.findIdx (hasM M) < xs.length then (xs.findIdx (hasM M) : Int) else -1
theorem idxM_at {M : Nat} {xs : List Int} {k : Nat} (hk : k < xs.length) (h : hasM M (nth xs k) = true) (hn : ∀ j, j < k → hasM M (nth xs j) = false) : idxM M xs = (k : Int) := by
  have e : xs.findIdx (hasM M) = k := by
    rw [List.findIdx_eq hk]
    refine ⟨by rw [← nth_eq hk]; exact h, fun j hj => ?_⟩
    rw [← nth_eq (by omega)]; exact hn j hj
  unfold idxM
  rw [e, if_pos hk]
theorem idxM_none {M : Nat} {xs : List Int} (hn : ∀ j, j < xs.length → hasM M (nth xs j) = false) : idxM M xs = -1 := by
  have e : xs.findIdx (hasM M) = xs.length := by
    rw [List.findIdx_eq_length]
    intro x hx
    obtain ⟨i, hi, rfl⟩ := List.getElem_of_mem hx
    rw [← nth_eq hi]; exact hn i hi
  unfold idxM
  rw [e, if_neg (by omega)]

set_option maxHeartbeats 4000000 in
set_option maxRecDepth 100000 in
theorem indexHas_any (M : Nat) (v1 : Value) (xs : List Int) (w : World) (hM : M < 65536) (h1 : RowAt w v1 xs) :
    Calls Try.prog 41 #[v1, .func (.func 42) #[.int .u32 (M : Int)] #[]] w fun e w' => e = .returned (.int .i64 (idxM M xs)) ∧ w = w' := by
  have ec := enters_of Try.func42 (by kernel_rfl) rfl
  have hl := h1.len
  unfold maxLen at hl
  obtain ⟨a1, c1, rfl⟩ := h1.slice
  have HR := Lib.hid h1
  clear h1
  go_enter Try.func41, Try.ntmps41
  go_wp2_with fail
  go_loopw [8] (fun i wr => ∃ k : Nat, k ≤ xs.length ∧ i = .int .i64 k ∧ wr = w ∧ ∀ j, j < k → hasM M (nth xs j) = false) (fun i _ => xs.length - (intOf i).toNat)
  case atStart => exact ⟨0, Nat.zero_le _, rfl, rfl, fun j hj => absurd hj (by omega)⟩
  case round =>
    obtain ⟨k, hk, rfl, hwr, hn⟩ := hrel
    subst wr
    have HN := Lib.hid hn
    clear hn
    by_cases hlt : k < xs.length
    · have hkI : (k : Int) < (xs.length : Int) := by omega
      obtain ⟨b, o, c, er, l1, l2, hc⟩ := HR.out.pos (by omega)
      simp only [Value.slice.injEq, true_and] at er
      obtain ⟨rfl, rfl⟩ := er
      have kk := hc k hlt
      clear hc
      have HC : Hid (Calls Try.prog 42 #[.int .u32 (M : Int), .int .i64 (nth xs k)] w fun e w' => e = .returned (.bool (hasM M (nth xs k))) ∧ w = w') := has_any M _ w hM
      go_wp2_with fail
      refine HC.out.mono ?_
      rintro e w' ⟨rfl, rfl⟩
      cases hd : hasM M (nth xs k) with
      | true =>
        have HE : Hid (idxM M xs = (k : Int)) := idxM_at hlt hd HN.out
        clear hd
        go_wp2
        go_ret
        exact ⟨by rw [HE.out]; rfl, rfl⟩
      | false =>
        have HN2 : Hid (∀ j, j < k + 1 → hasM M (nth xs j) = false) := fun j hj => by
          by_cases h : j < k
          · exact HN.out j h
          · obtain rfl : j = k := by omega
            exact hd
        clear hd
        go_wp2
        go_roundw
        case rel => exact ⟨k + 1, by omega, by go_num, by trivial, HN2.out⟩
        case measure => simp [intOf]; omega
    · obtain rfl : k = xs.length := by omega
      have HE : Hid (idxM M xs = -1) := idxM_none HN.out
      go_wp2
      go_ret
      exact ⟨by rw [HE.out]; rfl, rfl⟩

end Go.Proofs.Ytohjfcfcopbmoaa
