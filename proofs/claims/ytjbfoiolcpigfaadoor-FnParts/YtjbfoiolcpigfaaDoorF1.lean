/- Walks: the model's copy of a row, and a number put into a row. -/
import Derived.Test.YtjbfoiolcpigfaaDoorC1
import Derived.Test.YtjbfoiolcpigfaaDoorGrid
import Derived.Laws.AppendOwnNone
namespace Go.Proofs.YtjbfoiolcpigfaaDoor
open Go.RowKit

theorem row_news {w : World} {b o : Nat} {xs : List Int} (hc : ∀ i, i < xs.length → w.cell? ⟨b, o + i, none⟩ = some (.int .i64 (nth xs i))) : ∀ j u, (xs.map (Value.int .i64))[j]? = some u → w.cell? ((⟨b, o, none⟩ : Addr).add j) = some u := by
  intro j u hj
  simp at hj
  obtain ⟨x, hx, rfl⟩ := hj
  obtain ⟨hjl, rfl⟩ := List.getElem?_eq_some_iff.1 hx
  have := hc j hjl
  rw [nth_eq hjl] at this
  unfold Addr.add
  split
  · rename_i e; subst e; exact this
  · exact this
theorem ints_one (xs : List Int) : ∀ u ∈ xs.map (Value.int .i64), u.oneCell' = true := by
  intro u hu
  simp at hu
  obtain ⟨x, _, rfl⟩ := hu
  rfl

set_option maxHeartbeats 400000 in
theorem l1Copy_any (v : Value) (xs : List Int) (w : World) (h : RowAt w v xs) (hs : xs.length ≤ 1048576) : Calls Tryd.prog 140 #[v] w (GaveRow w xs) := by
  obtain ⟨i0, hi, hz0, hz1, hz2⟩ := info_parts Tryd.infoI
  have hown0 : (w.alloc (.cells #[] 2)).ownsRow w.heap.size 2 1 (.slice (some ⟨w.heap.size, 0, none⟩) 0 0) 0 [] := World.ownsRow_lit w #[] 0 (Nat.le_refl _) (Nat.zero_le _) rfl
  have HO := Lib.hid hown0
  have HI := Lib.hid h.1
  clear hown0
  by_cases h0 : xs.length = 0
  · have he : xs = [] := List.length_eq_zero_iff.1 h0
    rcases h.none_or h0 with rfl | ⟨ad, c, rfl⟩
    · have HP : Hid (GaveRow w xs (.returned (.slice (some ⟨w.heap.size, 0, none⟩) 0 0)) (w.alloc (.cells #[] 2))) :=
        ⟨0, _, 0, rfl, by rw [he]; exact OwnRow.of_ownsRow (n := 0) HO.out (by simp) (by simp), (Below.refl _ _).alloc (Nat.le_refl _) _⟩
      clear h h0 he hs
      go_enter Tryd.func140, Tryd.ntmps140
      go_wp2_with (at_builtin; refine wpList_append_own_none rfl (.tmp 3) (.tmp 4) 36 rfl w.heap.size 2 i0 1 Tryd.underlying36 hi _ _ _ rfl HO.out rfl ?_)
      go_ret
      exact HP.out
    · have HE := Lib.hid he
      clear h h0 he hs
      go_enter Tryd.func140, Tryd.ntmps140
      go_wp2_with (at_builtin; refine wpList_append_own _ rfl (.tmp 3) (.tmp 4) 36 rfl w.heap.size 2 i0 (.int .i64 0) 1 8 Tryd.underlying36 hi hz0 hz1 hz2 rfl (by decide) _ _ _ rfl HO.out ad 0 c [] rfl rfl ?c1 ?c2 ?c3 ?c4 ?c5 ?_)
      case c1 => intro j u hj; simp at hj
      case c2 => intro u hu; simp at hu
      case c3 => unfold maxLen; omega
      case c4 => omega
      case c5 => simp
      intro v' w1 hown' hgrow _
      have hro : OwnRow 2 w1 w.heap.size v' xs := by
        rw [HE.out]; exact OwnRow.of_ownsRow (n := 0) hown' (by simp) (by simp)
      obtain ⟨a1, c1, rfl⟩ := hro.row.slice
      have HP : Hid (GaveRow w xs (.returned (.slice a1 xs.length c1)) w1) := ⟨_, _, _, rfl, hro, ((Below.refl _ _).alloc (Nat.le_refl _) _).grown hgrow (by simp) (fun j hj => by simp [Value.ownBlock] at hj; omega)⟩
      clear hown' hgrow hro
      go_wp2
      go_ret
      exact HP.out
  · obtain ⟨b, o, c, rfl, l1, l2, hc⟩ := h.pos (by omega)
    have hc1 : Hid (∀ i, i < xs.length → (w.alloc (.cells #[] 2)).cell? ⟨b, o + i, none⟩ = some (.int .i64 (nth xs i))) := fun i hi => cell_keep ((Below.refl _ _).alloc (Nat.le_refl _) _) (hc i hi)
    clear h hc h0
    go_enter Tryd.func140, Tryd.ntmps140
    go_wp2_with (at_builtin; refine wpList_append_own _ rfl (.tmp 3) (.tmp 4) 36 rfl w.heap.size 2 i0 (.int .i64 0) 1 8 Tryd.underlying36 hi hz0 hz1 hz2 rfl (by decide) _ _ _ rfl HO.out ⟨b, o, none⟩ xs.length c (xs.map (Value.int .i64)) rfl (by simp) ?c1 ?c2 ?c3 ?c4 ?c5 ?_)
    case c1 => exact row_news hc1.out
    case c2 => exact ints_one xs
    case c3 => unfold maxLen; omega
    case c4 => omega
    case c5 => simp
    intro v' w1 hown' hgrow _
    have hro : OwnRow 2 w1 w.heap.size v' xs := OwnRow.of_ownsRow (n := 0 + xs.length) (by simpa using hown') (by unfold maxLen; omega) HI.out
    obtain ⟨a1, c1, rfl⟩ := hro.row.slice
    have HP : Hid (GaveRow w xs (.returned (.slice a1 xs.length c1)) w1) := ⟨_, _, _, rfl, hro, ((Below.refl _ _).alloc (Nat.le_refl _) _).grown hgrow (by simp) (fun j hj => by simp [Value.ownBlock] at hj; omega)⟩
    clear hown' hgrow hro
    go_wp2
    go_ret
    exact HP.out

end Go.Proofs.YtjbfoiolcpigfaaDoor
