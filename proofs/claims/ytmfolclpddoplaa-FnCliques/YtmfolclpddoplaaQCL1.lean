/- The texts CL1, CL2, joined. -/
import Derived.Test.YtmfolclpddoplaaEC3
import Derived.Test.YtmfolclpddoplaaCQ2

/- Plain facts: the greatest cliques that hold a set, one after another. -/
namespace Go.Proofs.Ytmfolclpddoplaa
open Go.RowKit

/-- Those of a list that are near v. -/
def meetA (A : Nat → Nat → Bool) (xs : List Int) (v : Int) : List Int := xs.filter (fun x => A v.toNat x.toNat)
/-- The greatest cliques that hold a set and others of those left alone; none of out may be put to them. -/
def cqF (A : Nat → Nat → Bool) : Nat → List Int → List Int → List Int → List (List Int)
  | 0, _, _, _ => []
  | f + 1, set, left, out => if left = [] ∧ out = [] then [set] else (List.range left.length).flatMap (fun i => cqF A f (set ++ [nth left i]) (meetA A (left.drop (i + 1)) (nth left i)) (meetA A (out ++ left.take i) (nth left i)))
/-- .. of the first k of those left. -/
def cqTo (A : Nat → Nat → Bool) (f : Nat) (set left out : List Int) (k : Nat) : List (List Int) :=
  (List.range k).flatMap (fun i => cqF A f (set ++ [nth left i]) (meetA A (left.drop (i + 1)) (nth left i)) (meetA A (out ++ left.take i) (nth left i)))
theorem cqTo_succ (A : Nat → Nat → Bool) (f : Nat) (set left out : List Int) (k : Nat) : cqTo A f set left out (k + 1) = cqTo A f set left out k ++ cqF A f (set ++ [nth left k]) (meetA A (left.drop (k + 1)) (nth left k)) (meetA A (out ++ left.take k) (nth left k)) := by
  unfold cqTo
  rw [List.range_succ, List.flatMap_append]
  simp
theorem cqF_leaf (A : Nat → Nat → Bool) (f : Nat) (set : List Int) : cqF A (f + 1) set [] [] = [set] := by rw [cqF, if_pos ⟨rfl, rfl⟩]
theorem cqF_all {A : Nat → Nat → Bool} {f : Nat} {set left out : List Int} (h : ¬ (left = [] ∧ out = [])) : cqF A (f + 1) set left out = cqTo A f set left out left.length := by rw [cqF, if_neg h]; rfl
theorem meetA_len (A : Nat → Nat → Bool) (xs : List Int) (v : Int) : (meetA A xs v).length ≤ xs.length := List.length_filter_le _ _
theorem meetA_mem {A : Nat → Nat → Bool} {xs : List Int} {v x : Int} : x ∈ meetA A xs v ↔ x ∈ xs ∧ A v.toNat x.toNat = true := by
  unfold meetA
  rw [List.mem_filter]
/-- If someone of out is near all that are left, nothing is found. -/
theorem cqF_none {A : Nat → Nat → Bool} (hs : ∀ i j, A i j = A j i) : ∀ (f : Nat) (set left out : List Int), (∃ v ∈ out, ∀ u ∈ left, A v.toNat u.toNat = true) → cqF A f set left out = []
  | 0, _, _, _, _ => rfl
  | f + 1, set, left, out, ⟨v, hv, hl⟩ => by
    rw [cqF_all (fun h => by rw [h.2] at hv; cases hv)]
    unfold cqTo
    rw [List.flatMap_eq_nil_iff]
    intro i hi
    rw [List.mem_range] at hi
    refine cqF_none hs f _ _ _ ⟨v, meetA_mem.2 ⟨List.mem_append_left _ hv, ?_⟩, fun u hu => ?_⟩
    · rw [hs]; exact hl _ (nth_mem hi)
    · exact hl _ (List.mem_of_mem_drop (meetA_mem.1 hu).1)

end Go.Proofs.Ytmfolclpddoplaa

/- Walks: those of a list that are in another, of the model. -/
namespace Go.Proofs.Ytmfolclpddoplaa
open Go.RowKit

def keptTo (ys : List Int) (xs : List Int) (k : Nat) : List Int := (xs.take k).filter (fun x => hasB ys x)
theorem keptTo_succ (ys : List Int) {xs : List Int} {k : Nat} (h : k < xs.length) : keptTo ys xs (k + 1) = if hasB ys (nth xs k) = true then keptTo ys xs k ++ [nth xs k] else keptTo ys xs k := by
  unfold keptTo
  rw [take_snoc h, List.filter_append]
  by_cases e : hasB ys (nth xs k) = true
  · rw [if_pos e]; simp [e]
  · rw [if_neg e]; simp [e]
theorem keptTo_len (ys xs : List Int) (k : Nat) : (keptTo ys xs k).length ≤ k := by
  unfold keptTo
  refine Nat.le_trans (List.length_filter_le _ _) ?_
  rw [List.length_take]; omega

set_option maxHeartbeats 2000000 in
set_option maxRecDepth 100000 in
theorem l8Meet_any (v v1 : Value) (xs ys : List Int) (w : World) (h : RowAt w v xs) (h1 : RowAt w v1 ys) (hlen : xs.length ≤ 16) (hx : ∀ x ∈ xs, 0 ≤ x ∧ x < 16) :
    Calls Try.prog 121 #[v, v1] w (GaveRow w (xs.filter (fun x => hasB ys x))) := by
  obtain ⟨i0, hi, hz0, hz1, hz2⟩ := info_parts Try.infoI
  obtain ⟨a0, c0, rfl⟩ := h.slice
  have HR : Hid (∀ W, Below w.heap.size w W → RowAt W (.slice a0 xs.length c0) xs) := fun W hb => h.keep hb
  have HR1 : Hid (∀ W, Below w.heap.size w W → RowAt W v1 ys) := fun W hb => h1.keep hb
  have HO0 : Hid (OwnRow 2 (w.alloc (.cells #[] 2)) w.heap.size (.slice (some ⟨w.heap.size, 0, none⟩) 0 0) []) := own_none2 w _ (Nat.le_refl _)
  have HB0 : Hid (Below w.heap.size w (w.alloc (.cells #[] 2))) := (Below.refl _ _).alloc (Nat.le_refl _) _
  have HX := Lib.hid hx
  have HALL : Hid (keptTo ys xs xs.length = xs.filter (fun x => hasB ys x)) := by show _ = _; unfold keptTo; rw [List.take_length]
  clear h h1 hx
  go_enter Try.func121, Try.ntmps121
  go_wp2_with fail
  go_loopw [5, 6] (fun s i wr => ∃ k : Nat, k ≤ xs.length ∧ i = .int .i64 k ∧ OwnRow 2 wr w.heap.size s (keptTo ys xs k) ∧ Below w.heap.size w wr) (fun _ i _ => xs.length - (intOf i).toNat)
  case atStart => exact ⟨0, Nat.zero_le _, rfl, HO0.out, HB0.out⟩
  case round =>
    obtain ⟨k, hk, rfl, ho, hb⟩ := hrel
    have hyl := keptTo_len ys xs k
    obtain ⟨zs, hzs⟩ : ∃ zs, zs = keptTo ys xs k := ⟨_, rfl⟩
    have HZS := Lib.hid hzs
    rw [← hzs] at ho hyl
    obtain ⟨a5, c5, e5⟩ := ho.row.slice
    subst e5
    obtain ⟨m, hm⟩ : ∃ m, m = zs.length := ⟨_, rfl⟩
    rw [← hm] at ho hyl ⊢
    have HM := Lib.hid hm
    have HO := Lib.hid ho
    have HB := Lib.hid hb
    clear hm hzs ho
    by_cases hlt : k < xs.length
    · have HNX := Lib.hid (keptTo_succ ys hlt)
      rw [← HZS.out] at HNX
      obtain ⟨bx, ox, cx, ex, lx1, lx2, hcx⟩ := (HR.out _ hb).pos (by omega)
      simp only [Value.slice.injEq, true_and] at ex
      obtain ⟨rfl, rfl⟩ := ex
      have hck := hcx k hlt
      have hxk := HX.out _ (nth_mem hlt)
      have HXK := Lib.hid hxk
      obtain ⟨x, hx⟩ : ∃ x, x = nth xs k := ⟨_, rfl⟩
      rw [← hx] at hck HNX hxk HXK
      have hkI : (k : Int) < (xs.length : Int) := by omega
      have HCA := Lib.hid (l1Has_any v1 ys x wr (HR1.out _ hb))
      obtain ⟨t, ht⟩ : ∃ t, t = hasB ys x := ⟨_, rfl⟩
      rw [← ht] at HCA HNX
      clear hcx hx ht hb
      go_wp2_with fail
      refine HCA.out.mono ?_
      rintro e w2 ⟨rfl, rfl⟩
      clear HCA
      cases t with
      | false =>
        clear hck
        go_wp2
        go_roundw
        case rel => exact ⟨k + 1, by omega, by go_num, by rw [HNX.out, if_neg (by simp)]; exact HO.out, HB.out⟩
        case measure => simp [intOf]; omega
      | true =>
        have hown := HO.out.owns
        rw [← HM.out] at hown
        have HWO := Lib.hid hown
        clear hown
        go_wp2_with (at_builtin; refine wpList_append_lies _ rfl (.tmp 20) (.tmp 25) 31 rfl w.heap.size 2 i0 (.int .i64 0) 1 8 Try.underlying31 hi hz0 hz1 hz2 rfl (by decide) _ _ _ rfl (HWO.out.alloc _) ⟨wr.heap.size, 0, none⟩ 1 1 [.int .i64 x] rfl rfl (World.news_of_block (heap_alloc_new _ _)) (ints_one [x]) Nat.one_pos ?d3 ?d4 ?d5 (wr.heap.size + 1) (size_alloc1 _ _) ?_)
        case d3 => unfold maxLen; omega
        case d4 => omega
        case d5 => have := HB.out.size; simp; omega
        intro g12 cap12 w12 hown12 hgrow12 _ _
        have hb12 : Below w.heap.size wr w12 := ((Below.refl _ _).alloc HB.out.size _).grown hgrow12 (by have := HB.out.size; simp; omega) (fun j hj => (HWO.out.lt j hj).1)
        have HEND : Hid (OwnRow 2 w12 w.heap.size (.slice (some ⟨g12, 0, none⟩) (m + 1) cap12) (keptTo ys xs (k + 1)) ∧ Below w.heap.size w w12) := by
          rw [HNX.out]
          simp only [if_true]
          refine ⟨?_, HB.out.trans hb12⟩
          exact OwnRow.of_ownsRow (xs := zs ++ [x]) (n := m + 1) (by simpa using hown12) (by rw [List.length_append, ← HM.out, List.length_singleton]; unfold maxLen; omega) (fun z hz => by
            rcases List.mem_append.1 hz with hz | hz
            · exact HO.out.1 z hz
            · rw [List.mem_singleton] at hz; subst hz; have := HXK.out; unfold I64; omega)
        clear hown12 hgrow12 hb12 hck
        go_wp2
        go_roundw
        case rel => exact ⟨k + 1, by omega, by go_num, HEND.out.1, HEND.out.2⟩
        case measure => simp [intOf]; omega
    · obtain rfl : k = xs.length := by omega
      clear hb
      go_wp2
      go_ret
      exact ⟨_, _, _, rfl, by rw [← HALL.out, ← HZS.out]; exact HO.out, HB.out⟩

end Go.Proofs.Ytmfolclpddoplaa
