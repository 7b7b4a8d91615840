/- Walks: those of a list that are in another, of the model: lists of any numbers. -/
import Derived.Test.YtohjfcfcopbmoaaDE4
import Derived.Test.YtohjfcfcopbmoaaQU2

namespace Go.Proofs.Ytohjfcfcopbmoaa
open Go.RowKit

theorem own_noneD (w : World) (B : Nat) (hB : B ≤ w.heap.size) : OwnRow 2 (w.alloc (.cells #[] 2)) B (.slice (some ⟨w.heap.size, 0, none⟩) 0 0) [] :=
  ⟨by simp, by simp, .inr ⟨w.heap.size, 0, #[], rfl, hB, heap_alloc_new w _, Nat.le_refl _, Nat.zero_le _, rfl, fun i hi => absurd hi (by simp)⟩⟩
def meetTo (ys : List Int) (xs : List Int) (k : Nat) : List Int := (xs.take k).filter (fun x => hasB ys x)
theorem meetTo_succ (ys : List Int) {xs : List Int} {k : Nat} (h : k < xs.length) : meetTo ys xs (k + 1) = if hasB ys (nth xs k) = true then meetTo ys xs k ++ [nth xs k] else meetTo ys xs k := by
  unfold meetTo
  rw [take_snoc h, List.filter_append]
  by_cases e : hasB ys (nth xs k) = true
  · rw [if_pos e]; simp [e]
  · rw [if_neg e]; simp [e]
theorem meetTo_len (ys xs : List Int) (k : Nat) : (meetTo ys xs k).length ≤ k := by
  unfold meetTo
  refine Nat.le_trans (List.length_filter_le _ _) ?_
  rw [List.length_take]; omega

set_option maxHeartbeats 2000000 in
set_option maxRecDepth 100000 in
theorem l8MeetD_any (v v1 : Value) (xs ys : List Int) (w : World) (h : RowAt w v xs) (h1 : RowAt w v1 ys) (hlen : xs.length ≤ 2000000) :
    Calls Try.prog 48 #[v, v1] w (GaveRow w (xs.filter (fun x => hasB ys x))) := by
  obtain ⟨i0, hi, hz0, hz1, hz2⟩ := info_parts Try.infoI
  obtain ⟨a0, c0, rfl⟩ := h.slice
  have HR : Hid (∀ W, Below w.heap.size w W → RowAt W (.slice a0 xs.length c0) xs) := fun W hb => h.keep hb
  have HR1 : Hid (∀ W, Below w.heap.size w W → RowAt W v1 ys) := fun W hb => h1.keep hb
  have HO0 : Hid (OwnRow 2 (w.alloc (.cells #[] 2)) w.heap.size (.slice (some ⟨w.heap.size, 0, none⟩) 0 0) []) := own_noneD w _ (Nat.le_refl _)
  have HB0 : Hid (Below w.heap.size w (w.alloc (.cells #[] 2))) := (Below.refl _ _).alloc (Nat.le_refl _) _
  have HX := Lib.hid h.1
  have HALL : Hid (meetTo ys xs xs.length = xs.filter (fun x => hasB ys x)) := by show _ = _; unfold meetTo; rw [List.take_length]
  clear h h1
  go_enter Try.func48, Try.ntmps48
  go_wp2_with fail
  go_loopw [5, 6] (fun s i wr => ∃ k : Nat, k ≤ xs.length ∧ i = .int .i64 k ∧ OwnRow 2 wr w.heap.size s (meetTo ys xs k) ∧ Below w.heap.size w wr) (fun _ i _ => xs.length - (intOf i).toNat)
  case atStart => exact ⟨0, Nat.zero_le _, rfl, HO0.out, HB0.out⟩
  case round =>
    obtain ⟨k, hk, rfl, ho, hb⟩ := hrel
    have hyl := meetTo_len ys xs k
    obtain ⟨zs, hzs⟩ : ∃ zs, zs = meetTo ys xs k := ⟨_, rfl⟩
    have HZS := Lib.hid hzs
    rw [← hzs] at ho hyl
    obtain ⟨a5, c5, e5⟩ := ho.row.slice
    subst e5
    obtain ⟨m, hm⟩ : ∃ m, m = zs.length := ⟨_, rfl⟩
    rw [← hm] at ho hyl ⊢
    have HM := Lib.hid hm
    have HO := Lib.hid ho
    have HB := Lib.hid hb
    clear hm hzs ho
    by_cases hlt : k < xs.length
    · have HNX := Lib.hid (meetTo_succ ys hlt)
      rw [← HZS.out] at HNX
      obtain ⟨bx, ox, cx, ex, lx1, lx2, hcx⟩ := (HR.out _ hb).pos (by omega)
      simp only [Value.slice.injEq, true_and] at ex
      obtain ⟨rfl, rfl⟩ := ex
      have hck := hcx k hlt
      have hxk := HX.out _ (nth_mem hlt)
      have HXK := Lib.hid hxk
      obtain ⟨x, hx⟩ : ∃ x, x = nth xs k := ⟨_, rfl⟩
      rw [← hx] at hck HNX hxk HXK
      have hkI : (k : Int) < (xs.length : Int) := by omega
      have HCA := Lib.hid (l1Has_any v1 ys x wr (HR1.out _ hb))
      obtain ⟨t, ht⟩ : ∃ t, t = hasB ys x := ⟨_, rfl⟩
      rw [← ht] at HCA HNX
      clear hcx hx ht hb
      go_wp2_with fail
      refine HCA.out.mono ?_
      rintro e w2 ⟨rfl, rfl⟩
      clear HCA
      cases t with
      | false =>
        clear hck
        go_wp2
        go_roundw
        case rel => exact ⟨k + 1, by omega, by go_num, by rw [HNX.out, if_neg (by simp)]; exact HO.out, HB.out⟩
        case measure => simp [intOf]; omega
      | true =>
        have hown := HO.out.owns
        rw [← HM.out] at hown
        have HWO := Lib.hid hown
        clear hown
        go_wp2_with (at_builtin; refine wpList_append_lies _ rfl (.tmp 20) (.tmp 25) 33 rfl w.heap.size 2 i0 (.int .i64 0) 1 8 Try.underlying33 hi hz0 hz1 hz2 rfl (by decide) _ _ _ rfl (HWO.out.alloc _) ⟨wr.heap.size, 0, none⟩ 1 1 [.int .i64 x] rfl rfl (World.news_of_block (heap_alloc_new _ _)) (ints_one [x]) Nat.one_pos ?d3 ?d4 ?d5 (wr.heap.size + 1) (size_alloc1 _ _) ?_)
        case d3 => unfold maxLen; omega
        case d4 => omega
        case d5 => have := HB.out.size; simp; omega
        intro g12 cap12 w12 hown12 hgrow12 _ _
        have hb12 : Below w.heap.size wr w12 := ((Below.refl _ _).alloc HB.out.size _).grown hgrow12 (by have := HB.out.size; simp; omega) (fun j hj => (HWO.out.lt j hj).1)
        have HEND : Hid (OwnRow 2 w12 w.heap.size (.slice (some ⟨g12, 0, none⟩) (m + 1) cap12) (meetTo ys xs (k + 1)) ∧ Below w.heap.size w w12) := by
          rw [HNX.out]
          simp only [if_true]
          refine ⟨?_, HB.out.trans hb12⟩
          exact OwnRow.of_ownsRow (xs := zs ++ [x]) (n := m + 1) (by simpa using hown12) (by rw [List.length_append, ← HM.out, List.length_singleton]; unfold maxLen; omega) (fun z hz => by
            rcases List.mem_append.1 hz with hz | hz
            · exact HO.out.1 z hz
            · rw [List.mem_singleton] at hz; subst hz; exact HXK.out)
        clear hown12 hgrow12 hb12 hck
        go_wp2
        go_roundw
        case rel => exact ⟨k + 1, by omega, by go_num, HEND.out.1, HEND.out.2⟩
        case measure => simp [intOf]; omega
    · obtain rfl : k = xs.length := by omega
      clear hb
      go_wp2
      go_ret
      exact ⟨_, _, _, rfl, by rw [← HALL.out, ← HZS.out]; exact HO.out, HB.out⟩

end Go.Proofs.Ytohjfcfcopbmoaa
