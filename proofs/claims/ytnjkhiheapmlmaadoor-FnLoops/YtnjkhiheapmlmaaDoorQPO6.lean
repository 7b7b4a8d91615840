/- The texts PO6, LL1, LL2, joined. -/
import Derived.Test.YtnjkhiheapmlmaaDoorPO5
import Derived.Test.YtnjkhiheapmlmaaDoorQLater
import Derived.Test.YtnjkhiheapmlmaaDoorQS4
import Derived.Test.YtnjkhiheapmlmaaDoorQPO1

/- Walks: PathOf, of the program. -/
namespace Go.Proofs.YtnjkhiheapmlmaaDoor
open Go.RowKit

theorem poL_path {L : List (List Int)} (hG : GraphP L) {p s : Nat} (hp : p < L.length) (hs : s < L.length) : poL L (p : Int) (s : Int) = pathN (rowM L) L.length p s := by
  have h1 : inB (p : Int) 0 ((L.length : Int) - 1) = true := by simp [inB]; omega
  have h2 : inB (s : Int) 0 ((L.length : Int) - 1) = true := by simp [inB]; omega
  unfold poL poB pathN
  rw [decide_eq_true hG, h1, h2, Int.toNat_natCast, Int.toNat_natCast, nearM_eq hG]
  simp only [Bool.true_and, decide_eq_true_iff]
theorem poL_off {L : List (List Int)} {x y : Int} (h : (inB x 0 ((L.length : Int) - 1) && inB y 0 ((L.length : Int) - 1)) = false) : poL L x y = [] := by
  apply poL_no
  unfold poB
  rw [Bool.and_assoc (decide (GraphP L)), h]
  simp

end Go.Proofs.YtnjkhiheapmlmaaDoor

/- Plain facts: the least loop: a path back without the edge. -/
namespace Go.Proofs.YtnjkhiheapmlmaaDoor

/-- The graph without an edge. -/
noncomputable def cutG (L : List (List Int)) (s u : Nat) : List (List Int) := cutEL L (s : Int) (u : Int)
theorem cutG_adj {L : List (List Int)} (hG : GraphP L) {s u : Nat} (hs : s < L.length) (hu : u < L.length) (h : adjB L s u = true) : cutG L s u = adjL L.length (unA (adjB L) s u) := by
  have hz := hG.1
  have hne : s ≠ u := fun e => by rw [e, adjB_self hG] at h; cases h
  have he : edgeB L (s : Int) (u : Int) = true := by rw [edgeB_adj hG hs hu]; exact h
  unfold cutG cutEL
  rw [if_pos he, Int.toNat_natCast, Int.toNat_natCast]
  have := cutEL_adj (adjB L) hs hu hz.2 hne
  rwa [graph_adjL hG] at this
theorem cutG_graph {L : List (List Int)} (hG : GraphP L) {s u : Nat} (hs : s < L.length) (hu : u < L.length) (h : adjB L s u = true) : GraphP (cutG L s u) := by rw [cutG_adj hG hs hu h]; exact unA_graph hG s u
theorem cutG_len {L : List (List Int)} (hG : GraphP L) {s u : Nat} (hs : s < L.length) (hu : u < L.length) (h : adjB L s u = true) : (cutG L s u).length = L.length := by rw [cutG_adj hG hs hu h, adjL_len]
/-- The masks without an edge. -/
def cutMs (M : Nat → Nat) (s u : Nat) (i : Nat) : Nat := if i = u then clrM (M u) (2 ^ s) else if i = s then clrM (M s) (2 ^ u) else M i
theorem cutMs_lt {M : Nat → Nat} (hM : ∀ i, M i < 65536) (s u i : Nat) : cutMs M s u i < 65536 := by
  unfold cutMs
  split
  · exact clrM_lt _ (hM _)
  · split
    · exact clrM_lt _ (hM _)
    · exact hM _
theorem cutMs_row {L : List (List Int)} (hG : GraphP L) {s u : Nat} (hs : s < L.length) (hu : u < L.length) (h : adjB L s u = true) : cutMs (rowM L) s u = rowM (cutG L s u) := by
  have hz := hG.1
  have hne : s ≠ u := fun e => by rw [e, adjB_self hG] at h; cases h
  have hlt : ∀ i, rowM L i < 65536 := fun i => rowM_lt (by omega) (fun v hv => (hG.2.1 v hv).1) i
  have hG' := unA_graph hG s u
  funext i
  refine bit_ext fun j => ?_
  have hr : (rowM (cutG L s u) i).testBit j = true ↔ unA (adjB L) s u i j = true := by
    rw [cutG_adj hG hs hu h]
    show adjB (adjL L.length (unA (adjB L) s u)) i j = true ↔ _
    constructor
    · intro hh
      have hrg := adjB_range hG' hh
      rw [adjL_len] at hrg
      rwa [adjB_adjL hG' hrg.1 (by omega)] at hh
    · intro hh
      have h1 : adjB L i j = true := by unfold unA at hh; rw [Bool.and_eq_true] at hh; exact hh.1
      have hrg := adjB_range hG h1
      rw [adjB_adjL hG' hrg.1 (by omega)]
      exact hh
  rw [hr]
  unfold cutMs unA
  by_cases e1 : i = u
  · subst e1
    rw [if_pos rfl, clrM_bit (hlt _) (pow_lt16 (by omega)), Nat.testBit_two_pow]
    show ((rowM L i).testBit j && !decide (s = j)) = true ↔ ((rowM L i).testBit j && _) = true
    have hi : (i == s) = false := by rw [beq_eq_false_iff_ne]; omega
    rw [hi]
    by_cases ej : s = j
    · subst ej; simp
    · have : (j == s) = false := by rw [beq_eq_false_iff_ne]; omega
      rw [this, decide_eq_false ej]; simp
  · rw [if_neg e1]
    have hi : (i == u) = false := by rw [beq_eq_false_iff_ne]; exact e1
    by_cases e2 : i = s
    · subst e2
      rw [if_pos rfl, clrM_bit (hlt _) (pow_lt16 (by omega)), Nat.testBit_two_pow]
      show ((rowM L i).testBit j && !decide (u = j)) = true ↔ ((rowM L i).testBit j && _) = true
      rw [hi]
      by_cases ej : u = j
      · subst ej; simp
      · have : (j == u) = false := by rw [beq_eq_false_iff_ne]; omega
        rw [this, decide_eq_false ej]; simp
    · have hi2 : (i == s) = false := by rw [beq_eq_false_iff_ne]; exact e2
      rw [if_neg e2, hi, hi2]
      show (rowM L i).testBit j = true ↔ ((rowM L i).testBit j && _) = true
      simp

/-- The way back from u to s without the edge. -/
noncomputable def backN (M : Nat → Nat) (n s u : Nat) : List Int := pathN (cutMs M s u) n u s
/-- The loop by an edge; nothing where there is none. -/
noncomputable def candN (M : Nat → Nat) (n s u : Nat) : List Int := if backN M n s u = [] then [] else (s : Int) :: (backN M n s u).take ((backN M n s u).length - 1)
theorem candN_no {M : Nat → Nat} {n s u : Nat} (h : backN M n s u = []) : candN M n s u = [] := by unfold candN; rw [if_pos h]
theorem candN_yes {M : Nat → Nat} {n s u : Nat} (h : backN M n s u ≠ []) : candN M n s u = (s : Int) :: (backN M n s u).take ((backN M n s u).length - 1) := by unfold candN; rw [if_neg h]
theorem backN_len {M : Nat → Nat} {n s u : Nat} (hn : n ≤ 16) : (backN M n s u).length ≤ 16 := by
  unfold backN pathN
  split
  · rw [wayD_len]
    have := dOf_lt (A := nearM (cutMs M s u)) (S := allS n) (v := s) (n := n) (fun u hu => (allS_iff _ _).1 hu) u
    omega
  · simp
theorem candN_len {M : Nat → Nat} {n s u : Nat} (hn : n ≤ 16) : (candN M n s u).length ≤ 16 := by
  have := backN_len (M := M) (s := s) (u := u) hn
  unfold candN
  split
  · simp
  · rename_i h
    have : 0 < (backN M n s u).length := List.length_pos_iff.2 h
    simp
    omega
theorem candN_ne {M : Nat → Nat} {n s u : Nat} (h : backN M n s u ≠ []) : candN M n s u ≠ [] := by rw [candN_yes h]; simp
theorem backN_i64 {M : Nat → Nat} {n s u : Nat} (hn : n ≤ 16) (hM : ∀ i, M i < 65536) (hA : ∀ a b, nearM (cutMs M s u) a b = nearM (cutMs M s u) b a) (hsu : s ≠ u) (h : backN M n s u ≠ []) : 2 ≤ (backN M n s u).length ∧ nth (backN M n s u) 0 = (u : Int) ∧ (∀ x ∈ backN M n s u, 0 ≤ x ∧ x < 16) := by
  have hS16 : ∀ x, allS n x = true → x < 16 := fun x hx => by have := (allS_iff _ _).1 hx; omega
  rcases Classical.em (∃ k, AtD (nearM (cutMs M s u)) (allS n) s k u) with ⟨k, hk⟩ | hn'
  · have hb : backN M n s u = wayD (cutMs M s u) (ringN (nearM (cutMs M s u)) (allS n) s) k u k := pathN_at hk
    have hstep := curD_step hA (cutMs_lt hM s u) (fun _ _ => rfl) hS16 hk
    rw [hb]
    refine ⟨?_, by rw [wayD_nth _ _ _ _ (Nat.zero_le _)]; rfl, fun x hx => ?_⟩
    · rw [wayD_len]
      have : k ≠ 0 := fun e => by
        subst e
        exact hsu (atD_zero.1 hk).1.symm
      omega
    · unfold wayD at hx
      rw [List.mem_map] at hx
      obtain ⟨j, hj, rfl⟩ := hx
      rw [List.mem_range] at hj
      have := hS16 _ (wk_in (hstep j (by omega)).1.1)
      omega
  · exact absurd (pathN_no (fun k hk => hn' ⟨k, hk⟩)) h

/-- The shorter of both, the first where they are equally long. -/
def pickB (b c : List Int) : List Int := if c ≠ [] ∧ (b = [] ∨ c.length < b.length) then c else b
/-- The best loop after the first k of a row. -/
noncomputable def bestRow (L : List (List Int)) (s : Nat) (b : List Int) : Nat → List Int
  | 0 => b
  | k + 1 => pickB (bestRow L s b k) (candN (rowM L) L.length s (nth (nthR L s) k).toNat)
/-- .. after the first s rows. -/
noncomputable def bestTo (L : List (List Int)) : Nat → List Int
  | 0 => []
  | s + 1 => bestRow L s (bestTo L s) (nthR L s).length
/-- What LeastLoop answers. -/
noncomputable def llL (L : List (List Int)) : List Int := if GraphP L then bestTo L L.length else []
theorem bestRow_len {L : List (List Int)} (hn : L.length ≤ 16) {s : Nat} {b : List Int} (hb : b.length ≤ 16) (k : Nat) : (bestRow L s b k).length ≤ 16 := by
  induction k with
  | zero => exact hb
  | succ k ih =>
    show (pickB _ _).length ≤ 16
    unfold pickB
    split
    · exact candN_len hn
    · exact ih
theorem bestTo_len {L : List (List Int)} (hn : L.length ≤ 16) (s : Nat) : (bestTo L s).length ≤ 16 := by
  induction s with
  | zero => exact Nat.zero_le _
  | succ s ih => exact bestRow_len hn ih _
theorem llL_small (L : List (List Int)) : (llL L).length ≤ 1048576 := by
  unfold llL
  split
  · rename_i hG
    have := bestTo_len hG.1.2 L.length
    omega
  · simp
/-- The best so far begins ahead of the edge s, u. -/
def AheadP (b : List Int) (s u : Int) : Prop := b = [] ∨ (2 ≤ b.length ∧ (nth b 0 < s ∨ (nth b 0 = s ∧ nth b 1 < u)))
theorem cand_two {M : Nat → Nat} {n s u : Nat} (hn : n ≤ 16) (hM : ∀ i, M i < 65536) (hA : ∀ a b, nearM (cutMs M s u) a b = nearM (cutMs M s u) b a) (hsu : s ≠ u) (h : candN M n s u ≠ []) : 2 ≤ (candN M n s u).length ∧ nth (candN M n s u) 0 = (s : Int) ∧ nth (candN M n s u) 1 = (u : Int) ∧ backN M n s u ≠ [] := by
  have hb : backN M n s u ≠ [] := fun e => h (candN_no e)
  obtain ⟨h1, h2, _⟩ := backN_i64 hn hM hA hsu hb
  rw [candN_yes hb]
  refine ⟨by simp; omega, by simp [nth], ?_, hb⟩
  have : nth ((s : Int) :: (backN M n s u).take ((backN M n s u).length - 1)) 1 = nth ((backN M n s u).take ((backN M n s u).length - 1)) 0 := by simp [nth]
  rw [this, nth_take (by omega), h2]
/-- Beside an earlier one, a new loop is less just if it is shorter. -/
theorem less_len {b c : List Int} {s u : Int} (hb : AheadP b s u) (hb0 : b ≠ []) (hc : 2 ≤ c.length ∧ nth c 0 = s ∧ nth c 1 = u) (hl : c.length = b.length) : ∃ i, i < c.length ∧ (∀ j, j < i → nth c j = nth b j) ∧ nth b i < nth c i := by
  rcases hb with h | ⟨h1, h2 | ⟨h2, h3⟩⟩
  · exact absurd h hb0
  · exact ⟨0, by omega, fun j hj => absurd hj (by omega), by rw [hc.2.1]; exact h2⟩
  · refine ⟨1, by omega, fun j hj => ?_, by rw [hc.2.2]; exact h3⟩
    obtain rfl : j = 0 := by omega
    rw [hc.2.1, h2]
theorem ahead_mono {b : List Int} {s u s' u' : Int} (h : AheadP b s u) (hlt : s < s' ∨ (s = s' ∧ u ≤ u')) : AheadP b s' u' := by
  rcases h with h | ⟨h1, h2⟩
  · exact .inl h
  · exact .inr ⟨h1, by omega⟩
theorem ahead_pick {b c : List Int} {s u u' : Int} (hb : AheadP b s u) (hc : c = [] ∨ (2 ≤ c.length ∧ nth c 0 = s ∧ nth c 1 = u)) (hu : u < u') : AheadP (pickB b c) s u' := by
  unfold pickB
  split
  · rcases hc with h | ⟨h1, h2, h3⟩
    · rename_i hh; exact absurd h hh.1
    · exact .inr ⟨h1, .inr ⟨h2, by omega⟩⟩
  · exact ahead_mono hb (.inr ⟨rfl, by omega⟩)

end Go.Proofs.YtnjkhiheapmlmaaDoor

/- Walks: the least loop, of the model. -/
namespace Go.Proofs.YtnjkhiheapmlmaaDoor
open Go.RowKit

set_option maxHeartbeats 2000000 in
/-- Of lists of one length, of which the first is greater where they part: the first is not less. -/
theorem l1Less_any (v v1 : Value) (xs ys : List Int) (w : World) (h : RowAt w v xs) (h1 : RowAt w v1 ys) (hlex : xs.length = ys.length → ∃ i, i < xs.length ∧ (∀ j, j < i → nth xs j = nth ys j) ∧ nth ys i < nth xs i) :
    Calls Tryd.prog 36 #[v, v1] w fun e w' => e = .returned (.bool (decide (xs.length < ys.length))) ∧ Drawn w w' := by
  obtain ⟨a0, c0, rfl⟩ := h.slice
  obtain ⟨a1, c1, rfl⟩ := h1.slice
  by_cases hl : xs.length = ys.length
  · obtain ⟨i, hi, heq, hgt⟩ := hlex hl
    obtain ⟨b, o, c, e0, l1, l2, hc⟩ := h.pos (by omega)
    obtain ⟨b1, o1, c1', e1, m1, m2, hc1⟩ := h1.pos (by omega)
    simp only [Value.slice.injEq, true_and] at e0 e1
    obtain ⟨rfl, rfl⟩ := e0
    obtain ⟨rfl, rfl⟩ := e1
    have HC : Hid (∀ j, j < xs.length → w.cell? ⟨b, o + j, none⟩ = some (.int .i64 (nth xs j)) ∧ w.cell? ⟨b1, o1 + j, none⟩ = some (.int .i64 (nth ys j))) := fun j hj => ⟨hc j hj, hc1 j (by omega)⟩
    have HEQ := Lib.hid heq
    have HGT := Lib.hid hgt
    have HL := Lib.hid hl
    rw [← hl] at m1 ⊢
    have q1 : ((xs.length : Int) != (xs.length : Int)) = false := by simp
    have hlm := h.len
    unfold maxLen at hlm
    clear hc hc1 heq hgt hl h h1 hlex
    go_enter Tryd.func36, Tryd.ntmps36
    go_wp2_with fail
    go_loopw [5] (fun iv wr => ∃ k : Nat, k ≤ i ∧ iv = .int .i64 k ∧ Drawn w wr) (fun iv _ => xs.length - (intOf iv).toNat)
    case atStart => exact ⟨0, Nat.zero_le _, rfl, Drawn.refl _⟩
    case round =>
      obtain ⟨k, hk, rfl, hd⟩ := hrel
      have hkl : k < xs.length := by omega
      obtain ⟨hx, hy⟩ := HC.out k hkl
      have hx' := cell_drawn hd hx
      have hy' := cell_drawn hd hy
      have HD := Lib.hid hd
      clear hx hy hd
      by_cases hki : k < i
      · rw [HEQ.out k hki] at hx'
        obtain ⟨z, hz⟩ : ∃ z, z = nth ys k := ⟨_, rfl⟩
        rw [← hz] at hx' hy'
        have q2 : (z != z) = false := by simp
        clear hz
        go_wp2
        go_quiet (fail)
        go_wp2
        go_roundw
        case rel => exact ⟨k + 1, by omega, by go_num, HD.out.more _⟩
        case measure => simp [intOf]; omega
      · obtain rfl : k = i := by omega
        have hg := HGT.out
        obtain ⟨z, hz⟩ : ∃ z, z = nth ys k := ⟨_, rfl⟩
        obtain ⟨y, hy⟩ : ∃ y, y = nth xs k := ⟨_, rfl⟩
        rw [← hz, ← hy] at hg
        rw [← hy] at hx'
        rw [← hz] at hy'
        have q2 : (y != z) = true := by rw [bne_iff_ne]; omega
        have q3 : decide (y < z) = false := by rw [decide_eq_false]; omega
        have q4 : ¬ (y < z) := by omega
        clear hz hy
        go_wp2
        go_quiet (fail)
        go_wp2
        go_quiet (fail)
        go_wp2
        go_ret
        exact ⟨ret_bool (by simp), (HD.out.more _).more _⟩
  · have q1 : ((xs.length : Int) != (ys.length : Int)) = true := by rw [bne_iff_ne]; omega
    have HD : Hid (decide ((xs.length : Int) < (ys.length : Int)) = decide (xs.length < ys.length)) := by show _ = _; rw [decide_eq_decide]; omega
    clear hlex h h1
    go_enter Tryd.func36, Tryd.ntmps36
    go_wp2
    go_ret
    exact ⟨by first | exact ret_bool HD.out | (simp), Drawn.refl _⟩

section
variable {L : List (List Int)}
theorem cutMs_symm (hG : GraphP L) {s u : Nat} (hs : s < L.length) (hu : u < L.length) (h : adjB L s u = true) : ∀ a b, nearM (cutMs (rowM L) s u) a b = nearM (cutMs (rowM L) s u) b a := by
  rw [cutMs_row hG hs hu h, nearM_eq (cutG_graph hG hs hu h)]
  exact nearB_symm (cutG_graph hG hs hu h)
theorem back_yes (hG : GraphP L) {s u k : Nat} (hs : s < L.length) (hu : u < L.length) (h : adjB L s u = true) (hk : AtD (nearB (cutG L s u)) (allS L.length) s k u) : backN (rowM L) L.length s u = wayD (rowM (cutG L s u)) (ringN (nearB (cutG L s u)) (allS L.length) s) k u k := by
  unfold backN
  rw [cutMs_row hG hs hu h]
  rw [← nearM_eq (cutG_graph hG hs hu h)] at hk ⊢
  exact pathN_at hk
theorem back_no (hG : GraphP L) {s u : Nat} (hs : s < L.length) (hu : u < L.length) (h : adjB L s u = true) (hk : dOf (nearB (cutG L s u)) (allS L.length) s u < 0) : backN (rowM L) L.length s u = [] := by
  unfold backN
  rw [cutMs_row hG hs hu h]
  refine pathN_no (fun k hk' => ?_)
  rw [nearM_eq (cutG_graph hG hs hu h)] at hk'
  rw [dOf_at hk'] at hk
  omega
/-- The next vertex of a row, 16 behind its end. -/
def nextU (row : List Int) (k : Nat) : Int := if k < row.length then nth row k else 16
end

set_option maxHeartbeats 8000000 in
set_option maxRecDepth 100000 in
theorem specLeastLoop_any (v : Value) (L : List (List Int)) (w : World) (h : GridAt w v L) : Calls Tryd.prog 17 #[.agg #[v]] w (GaveRow w (llL L)) := by
  obtain ⟨i0, hi, hz0, hz1, hz2⟩ := info_parts Tryd.infoI
  obtain ⟨a0, c0, rfl⟩ := h.slice
  have kbA : ((w.alloc (.cells #[.slice a0 L.length c0] 26)).alloc (.cells #[] 2)).cell? ⟨w.heap.size, 0, none⟩ = some (.slice a0 L.length c0) := by go_simp
  obtain ⟨Wz, hWz⟩ : ∃ Wz, (w.alloc (.cells #[.slice a0 L.length c0] 26)).alloc (.cells #[] 2) = Wz := ⟨_, rfl⟩
  have ha : Below w.heap.size w Wz := by rw [← hWz]; exact ((Below.refl _ _).alloc (Nat.le_refl _) _).alloc (by simp) _
  have kbz := kbA
  rw [hWz] at kbz
  have HOz : Hid (OwnRow 2 Wz w.heap.size (.slice (some ⟨w.heap.size + 1, 0, none⟩) 0 0) []) := by
    have h1 := World.ownsRow_lit (w.alloc (.cells #[.slice a0 L.length c0] 26)) #[] (e := 2) (size := 1) 0 (base := w.heap.size) (by simp) (Nat.zero_le _) rfl
    rw [World.size_alloc, hWz] at h1
    exact OwnRow.of_ownsRow (n := 0) (xs := []) h1 (Nat.zero_le _) (fun x hx => absurd hx (by simp))
  have HGK : Hid (∀ w', Below w.heap.size w w' → GridAt w' (.slice a0 L.length c0) L) := fun w' hb => h.keep hb
  have HA := Lib.hid ha
  have HWZ := Lib.hid hWz
  have HKZ := Lib.hid kbz
  clear ha h hWz kbz
  go_enter Tryd.func17, Tryd.ntmps17
  go_wp2_with fail
  rw [HWZ.out]
  clear kbA
  refine (specGraphOk_any _ _ _ (HGK.out _ HA.out)).mono ?_
  rintro e w1 ⟨rfl, hb1⟩
  have kb1 := cell_keep hb1 HKZ.out
  have HB1 : Hid (Below w.heap.size w w1) := HA.out.trans (hb1.mono HA.out.size)
  have HO1 := Lib.hid (HOz.out.keep hb1)
  clear hb1 HOz HKZ
  by_cases hG : GraphP L
  · have hz := hG.1
    have HG := Lib.hid hG
    have HE : Hid (llL L = bestTo L L.length) := by show _ = _; unfold llL; rw [if_pos hG]
    have HLT : Hid (∀ i, rowM L i < 65536) := fun i => rowM_lt (by omega) (fun v hv => (hG.2.1 v hv).1) i
    rw [decide_eq_true hG]
    clear hG
    go_wp2_with fail
    refine (l1Size_any _ L _ (HGK.out _ HB1.out)).mono ?_
    rintro e w2 ⟨rfl, hb2⟩
    have kb2 := cell_keep hb2 kb1
    have HB2 : Hid (Below w.heap.size w w2) := HB1.out.trans (hb2.mono HB1.out.size)
    have HO2 := Lib.hid (HO1.out.keep hb2)
    clear hb2 kb1 HO1 HB1
    go_wp2_with fail
    refine (l1All_any L.length _ hz.2).mono ?_
    rintro e w3 ⟨n3, a3, c3, rfl, ho3, hb3⟩
    have kb3 := cell_keep hb3 kb2
    have HB3 : Hid (Below w.heap.size w w3) := HB2.out.trans (hb3.mono HB2.out.size)
    have HO3 := Lib.hid (HO2.out.keep hb3)
    have HAL : Hid (∀ w', Below w3.heap.size w3 w' → RowAt w' (.slice a3 n3 c3) (allL L.length)) := fun w' hb => ho3.row.keep hb
    have KB : Hid (∀ w', Below w3.heap.size w3 w' → w'.cell? ⟨w.heap.size, 0, none⟩ = some (.slice a0 L.length c0)) := fun w' hb => cell_keep hb kb3
    have GK : Hid (∀ w', Below w3.heap.size w3 w' → GridAt w' (.slice a0 L.length c0) L) := fun w' hb => HGK.out _ (HB3.out.trans (hb.mono HB3.out.size))
    have HRNG := Lib.hid (allL_rng L.length)
    have hw3 : w.heap.size ≤ w3.heap.size := HB3.out.size
    clear ho3 hb3 kb2 HO2 HB2 kb3 HGK
    go_wp2_with fail
    go_loopw [3, 5] (fun bv iv wr => ∃ s : Nat, s ≤ L.length ∧ iv = .int .i64 s ∧ OwnRow 2 wr w.heap.size bv (bestTo L s) ∧ AheadP (bestTo L s) (s : Int) 0 ∧ Below w3.heap.size w3 wr) (fun _ iv _ => L.length - (intOf iv).toNat)
    case atStart => exact ⟨0, Nat.zero_le _, rfl, HO3.out, .inl rfl, Below.refl _ _⟩
    case round =>
      clear HO3
      obtain ⟨s, hs, rfl, ho, hah, hb⟩ := hrel
      have kb := KB.out _ hb
      have HO := Lib.hid ho
      have HAH := Lib.hid hah
      have HB := Lib.hid hb
      have HBL := Lib.hid (bestTo_len hz.2 s)
      clear ho hah hb
      go_wp2_with fail
      refine (l1Size_any _ L _ (GK.out _ HB.out)).mono ?_
      rintro e w4 ⟨rfl, hb4⟩
      have HB4 : Hid (Below w3.heap.size w3 w4) := HB.out.trans (hb4.mono HB.out.size)
      have HO4 := Lib.hid (HO.out.keep hb4)
      clear hb4 kb HO HB
      by_cases hsl : s < L.length
      · have HST := Lib.hid (HG.out.2.1 s hsl).1
        have hrl : (nthR L s).length ≤ 16 := by have := HST.out.len (by omega); omega
        go_wp2_with fail
        go_loopw [3, 6] (fun bv kv wr => ∃ k : Nat, k ≤ (nthR L s).length ∧ kv = .int .i64 k ∧ OwnRow 2 wr w.heap.size bv (bestRow L s (bestTo L s) k) ∧ AheadP (bestRow L s (bestTo L s) k) (s : Int) (nextU (nthR L s) k) ∧ Below w3.heap.size w3 wr) (fun _ kv _ => (nthR L s).length - (intOf kv).toNat)
        case atStart =>
          refine ⟨0, Nat.zero_le _, rfl, HO4.out, ahead_mono HAH.out (.inr ⟨rfl, ?_⟩), HB4.out⟩
          unfold nextU
          split
          · rename_i hh; exact (HST.out 0 hh).1
          · omega
        case round =>
          clear HO4 HB4
          rename World => wx
          obtain ⟨k, hk, rfl, ho, hah, hb⟩ := hrel
          have kb := KB.out _ hb
          obtain ⟨b, o, c, A, C, e1, l1, l2, hc⟩ := (GK.out _ hb).pos (by omega)
          simp only [Value.slice.injEq, true_and] at e1
          obtain ⟨rfl, rfl⟩ := e1
          have hcs := (hc s hsl).1
          have hrow := (hc s hsl).2
          have HO := Lib.hid ho
          have HAH2 := Lib.hid hah
          have HB := Lib.hid hb
          have HBL2 := Lib.hid (bestRow_len (s := s) hz.2 HBL.out k)
          clear ho hah hb hc
          by_cases hkl : k < (nthR L s).length
          · have hst := HST.out k hkl
            obtain ⟨u, hu⟩ : ∃ u : Nat, nth (nthR L s) k = (u : Int) := ⟨(nth (nthR L s) k).toNat, by have := hst.1; omega⟩
            have hun : u < L.length := by have := hst.2.1; omega
            have hadj : adjB L s u = true := by rw [← adjB_has HG.out hsl (by omega), ← hu]; exact (hasB_mem _ _).2 (nth_mem hkl)
            have hsu : s ≠ u := fun e => by rw [e, adjB_self HG.out] at hadj; cases hadj
            obtain ⟨b1, o1, c1, e1, m1, m2, hcr⟩ := hrow.pos (by omega)
            simp only [Value.slice.injEq, true_and] at e1
            obtain ⟨eA, eC⟩ := e1
            rw [eA, eC] at hcs
            have hcu := hcr k hkl
            rw [hu] at hcu
            have hG' := cutG_graph HG.out hsl hun hadj
            have hl' := cutG_len HG.out hsl hun hadj
            have HEB : Hid (edgeB L (s : Int) (u : Int) = true) := by rw [edgeB_adj HG.out hsl hun]; exact hadj
            have HADJ := Lib.hid hadj
            have HG' := Lib.hid hG'
            have HL' := Lib.hid hl'
            have HU := Lib.hid hu
            have HNX : Hid (nextU (nthR L s) k = (u : Int) ∧ (u : Int) < nextU (nthR L s) (k + 1)) := by
              refine ⟨by unfold nextU; rw [if_pos hkl, hu], ?_⟩
              unfold nextU
              split
              · rename_i hh
                have := (HST.out (k + 1) hh).2.2 (by omega)
                rw [Nat.add_sub_cancel, hu] at this
                exact this
              · omega
            have HBR : Hid (bestRow L s (bestTo L s) (k + 1) = pickB (bestRow L s (bestTo L s) k) (candN (rowM L) L.length s u)) := by
              show pickB _ (candN _ _ _ (nth (nthR L s) k).toNat) = _
              rw [hu, Int.toNat_natCast]
            clear hu hadj hrow hcr hst eA eC hG' hl'
            go_wp2_with fail
            refine (specCutEdge_any _ L (s : Int) (u : Int) _ (GK.out _ HB.out) (by unfold I64; omega) (by unfold I64; omega)).mono ?_
            rintro e w5 ⟨n5, a5, c5, rfl, ho5, hb5⟩
            have hgc : GridAt w5 (.slice a5 n5 c5) (cutG L s u) := ho5.grid
            have hst5 : Below w5.heap.size w5 (w5.alloc (.cells #[.slice a5 n5 c5] 26)) := (Below.refl _ _).alloc (Nat.le_refl _) _
            have kc6 := (BoxAt.new w5 (.slice a5 n5 c5) 26).1
            have hS : Below wx.heap.size wx (w5.alloc (.cells #[.slice a5 n5 c5] 26)) := hb5.trans (hst5.mono hb5.size)
            have HB6 : Hid (Below w3.heap.size w3 (w5.alloc (.cells #[.slice a5 n5 c5] 26))) := HB.out.trans (hS.mono HB.out.size)
            have HO6 := Lib.hid (HO.out.keep hS)
            have HGC := Lib.hid (hgc.keep hst5)
            rw [HEB.out]
            clear ho5 hb5 hgc hst5 hS kb hcs hcu HO HB
            go_wp2_with fail
            generalize (w5.alloc (.cells #[.slice a5 n5 c5] 26)) = W6 at kc6 HB6 HO6 HGC ⊢
            refine (l3From_any _ _ (cutG L s u) s (allL L.length) _ HGC.out HG'.out (by rw [HL'.out]; exact hsl) (HAL.out _ HB6.out) (by rw [HL'.out]; exact HRNG.out)).mono ?_
            rintro e w7 ⟨n7, a7, c7, rfl, ho7, hb7⟩
            rw [HL'.out] at ho7
            have ho7' : OwnRow 2 w7 W6.heap.size (.slice a7 n7 c7) (distL L.length (nearB (cutG L s u)) (allS L.length) s) := ho7
            obtain ⟨gf, cf, e7, hgfB, hgfl, hcf1, hcf2⟩ := ho7'.posB (by rw [distL_len]; omega)
            rw [distL_len] at e7 hcf1
            simp only [Value.slice.injEq] at e7
            obtain ⟨rfl, rfl, rfl⟩ := e7
            have hfu := ho7'.cells' u (by rw [distL_len]; exact hun)
            rw [distL_nth hun] at hfu
            have kc7 := cell_keep hb7 kc6
            have HB7 : Hid (Below w3.heap.size w3 w7) := HB6.out.trans (hb7.mono HB6.out.size)
            have HO7 := Lib.hid (HO6.out.keep hb7)
            have HGC7 := Lib.hid (HGC.out.keep hb7)
            have HF7 := Lib.hid ho7'.row
            clear ho7 ho7' hb7 kc6 HB6 HO6 HGC
            by_cases hneg : dOf (nearB (cutG L s u)) (allS L.length) s u < 0
            · have HPE : Hid (bestRow L s (bestTo L s) (k + 1) = bestRow L s (bestTo L s) k) := by
                show _ = _
                rw [HBR.out, candN_no (back_no HG.out hsl hun HADJ.out hneg)]
                unfold pickB
                rw [if_neg (fun hh => hh.1 rfl)]
              obtain ⟨D, hD⟩ : ∃ D, D = dOf (nearB (cutG L s u)) (allS L.length) s u := ⟨_, rfl⟩
              rw [← hD] at hfu hneg
              clear hD
              go_wp2
              go_roundw
              case rel => exact ⟨k + 1, by omega, by go_num, by rw [HPE.out]; exact HO7.out, by rw [HPE.out]; exact ahead_mono HAH2.out (.inr ⟨rfl, by rw [HNX.out.1]; exact Int.le_of_lt HNX.out.2⟩), HB7.out⟩
              case measure => simp [intOf]; omega
            · obtain ⟨d, hd⟩ := dOf_nonneg.1 (show 0 ≤ dOf (nearB (cutG L s u)) (allS L.length) s u by omega)
              rw [dOf_at hd] at hfu
              have HBK := Lib.hid (back_yes HG.out hsl hun HADJ.out hd)
              have HD := Lib.hid hd
              have hsym := cutMs_symm HG.out hsl hun HADJ.out
              have hbne : backN (rowM L) L.length s u ≠ [] := fun e => by
                have h9 := wayD_len (rowM (cutG L s u)) (ringN (nearB (cutG L s u)) (allS L.length) s) d u d
                rw [← HBK.out, e] at h9
                simp at h9
              have hbi := backN_i64 (n := L.length) hz.2 HLT.out hsym hsu hbne
              have hb16 := backN_len (M := rowM L) (s := s) (u := u) hz.2
              have HCY := Lib.hid (candN_yes hbne)
              have HC2 := Lib.hid (cand_two hz.2 HLT.out hsym hsu (candN_ne hbne))
              have HBI := Lib.hid hbi.2.2
              have hb2 := hbi.1
              clear hneg hd hbi hsym
              go_wp2_with fail
              refine (l3Down_any _ _ (cutG L s u) s d u _ HGC7.out HG'.out (by rw [HL'.out]; exact HF7.out) (by rw [HL'.out]; exact HD.out)).mono ?_
              rintro e w8 ⟨n8, a8, c8, rfl, ho8, hb8⟩
              rw [HL'.out, ← HBK.out] at ho8
              obtain ⟨X, hX⟩ : ∃ X, X = backN (rowM L) L.length s u := ⟨_, rfl⟩
              rw [← hX] at ho8 hb2 hb16 HCY HBI
              obtain ⟨gw, cw, e8, hgwB, hgwl, hcw1, hcw2⟩ := ho8.posB (by omega)
              simp only [Value.slice.injEq] at e8
              obtain ⟨rfl, rfl, rfl⟩ := e8
              obtain ⟨m, hm⟩ : ∃ m, X.length = m + 1 := ⟨X.length - 1, by omega⟩
              have HB8 : Hid (Below w3.heap.size w3 w8) := HB7.out.trans (hb8.mono HB7.out.size)
              have HO8 := Lib.hid (HO7.out.keep hb8)
              have HXC : Hid (∀ i, i < X.length → w8.cell? ⟨gw, i, none⟩ = some (.int .i64 (nth X i))) := fun i hi => ho8.cells' i hi
              have hw8 : w3.heap.size ≤ w8.heap.size := HB8.out.size
              have hwm : IntKind.i64.wrap (((m + 1 : Nat) : Int) - 1) = (m : Int) := by rw [show ((m + 1 : Nat) : Int) - 1 = (m : Int) from by omega]; exact IntWalk.i64_in _ (by omega)
              have hms : (((m + 1 : Nat) : Int) - 1) = (m : Int) := by omega
              have HM := Lib.hid hm
              have HXX := Lib.hid hX
              rw [hm] at hcw1 hb2 hb16 ⊢
              have hown9 : (w8.alloc (.cells #[.int .i64 (s : Int)] 2)).ownsRow w8.heap.size 2 1 (.slice (some ⟨w8.heap.size, 0, none⟩) 1 1) 1 [.int .i64 (s : Int)] := World.ownsRow_lit w8 #[.int .i64 (s : Int)] 1 (Nat.le_refl _) (by unfold maxLen; omega) rfl
              have HOW9 := Lib.hid hown9
              have hm0 : (0 : Int) ≤ (m : Int) := by omega
              have hm1 : (m : Int) ≤ ((m + 1 : Nat) : Int) := by omega
              have hmc : (m : Int) ≤ (c8 : Int) := by omega
              have hmc' : m ≤ c8 := by omega
              clear ho8 hb8 hfu kc7 HO7 HB7 HGC7 HF7 hX hm hown9
              go_wp2_with (at_builtin; refine wpList_append_own _ rfl (.tmp 66) (.tmp 71) 28 rfl w8.heap.size 2 i0 (.int .i64 0) 1 8 Tryd.underlying28 hi hz0 hz1 hz2 rfl (by decide) _ _ _ rfl HOW9.out ⟨gw, 0, none⟩ m c8 ((X.take m).map (Value.int .i64)) rfl ?d0 ?d1 (ints_one _) ?d3 ?d4 ?d5 ?_)
              case d0 => simp; have := HM.out; omega
              case d1 =>
                intro j z hj
                rw [List.getElem?_map] at hj
                obtain ⟨y, hy, rfl⟩ := Option.map_eq_some_iff.1 hj
                rw [List.getElem?_take] at hy
                split at hy
                · obtain ⟨hjl, e⟩ := List.getElem?_eq_some_iff.1 hy
                  have := cell_keep (w' := w8.alloc (.cells #[.int .i64 (s : Int)] 2)) ((Below.refl _ _).alloc (Nat.le_refl _) _) (HXC.out j hjl)
                  rw [nth_eq hjl, e] at this
                  unfold Addr.add
                  split
                  · rename_i e0; subst e0; exact this
                  · simpa using this
                · cases hy
              case d3 => unfold maxLen; omega
              case d4 => omega
              case d5 => simp
              intro v9 w9 hown9 hgrow9 _
              have hb9 : Below w8.heap.size w8 w9 := ((Below.refl _ _).alloc (Nat.le_refl _) _).grown hgrow9 (by simp) (fun j hj => by simp [Value.ownBlock] at hj; omega)
              have HCA : Hid (candN (rowM L) L.length s u = (s : Int) :: X.take m) := by show _ = _; rw [HCY.out, HM.out, Nat.add_sub_cancel]
              have HO9 : Hid (OwnRow 2 w9 w8.heap.size v9 (candN (rowM L) L.length s u)) := by
                rw [HCA.out]
                refine OwnRow.of_ownsRow (n := 1 + m) (by simpa using hown9) (by simp; unfold maxLen; omega) (fun x hx => ?_)
                rcases List.mem_cons.1 hx with rfl | hx
                · unfold I64; omega
                · have := HBI.out x (List.mem_of_mem_take hx)
                  unfold I64; omega
              have HB9 : Hid (Below w3.heap.size w3 w9) := HB8.out.trans (hb9.mono hw8)
              have HO9b := Lib.hid (HO8.out.keep hb9)
              obtain ⟨a9, c9, e9⟩ := HO9.out.row.slice
              obtain ⟨ab, cb, eb⟩ := HO9b.out.row.slice
              subst e9 eb
              have hcl : (candN (rowM L) L.length s u).length = m + 1 := by rw [HCA.out]; simp; have := HM.out; omega
              have hbl := HBL2.out
              have HAN : Hid (AheadP (bestRow L s (bestTo L s) (k + 1)) (s : Int) (nextU (nthR L s) (k + 1))) := by
                rw [HBR.out]
                refine ahead_pick (u := (u : Int)) (by rw [← HNX.out.1]; exact HAH2.out) (.inr ⟨HC2.out.1, HC2.out.2.1, HC2.out.2.2.1⟩) HNX.out.2
              have HCNE := Lib.hid (show candN (rowM L) L.length s u ≠ [] from fun e => by rw [e] at hcl; simp at hcl)
              obtain ⟨Y, hY⟩ : ∃ Y, Y = candN (rowM L) L.length s u := ⟨_, rfl⟩
              obtain ⟨Z, hZ⟩ : ∃ Z, Z = bestRow L s (bestTo L s) k := ⟨_, rfl⟩
              have HC2' : Hid (2 ≤ Y.length ∧ nth Y 0 = (s : Int) ∧ nth Y 1 = (u : Int)) := by rw [hY]; exact ⟨HC2.out.1, HC2.out.2.1, HC2.out.2.2.1⟩
              have HAZ : Hid (AheadP Z (s : Int) (u : Int)) := by rw [hZ, ← HNX.out.1]; exact HAH2.out
              rw [← hY, ← hZ] at HBR
              rw [← hY] at HO9 HCNE ⊢
              rw [← hZ] at HO9b hbl ⊢
              clear hown9 hgrow9 hb9 HO8 HB8 HXC HOW9 hcl hms hwm hY hZ HC2 HCA HCY HBI HAH2 HXX HM HBK hm0 hm1 hmc hmc' hcw1 hcw2
              by_cases hb0 : Z = []
              · have HPE : Hid (bestRow L s (bestTo L s) (k + 1) = Y) := by
                  show _ = _
                  rw [HBR.out]
                  unfold pickB
                  rw [if_pos ⟨HCNE.out, .inl hb0⟩]
                have hl0 : Z.length = 0 := by rw [hb0]; rfl
                rw [hl0]
                clear hb0 hl0
                go_wp2
                go_roundw
                case rel => exact ⟨k + 1, by omega, by go_num, by rw [HPE.out]; exact HO9.out.mono (by omega), HAN.out, HB9.out⟩
                case measure => simp [intOf]; omega
              · have hlp : 0 < Z.length := List.length_pos_iff.2 hb0
                have hne0 : ((Z.length : Int) == 0) = false := by rw [beq_eq_false_iff_ne]; omega
                have HLL : Hid (Y.length = Z.length → ∃ i, i < Y.length ∧ (∀ j, j < i → nth (Y) j = nth (Z) j) ∧ nth (Z) i < nth (Y) i) := fun hh =>
                  less_len HAZ.out hb0 HC2'.out hh
                have HB0 := Lib.hid hb0
                clear hb0
                go_wp2_with fail
                refine (l1Less_any _ _ _ _ _ HO9.out.row HO9b.out.row HLL.out).mono ?_
                rintro e w10 ⟨rfl, hd10⟩
                have HO10 := Lib.hid (HO9.out.keep (hd10.below _))
                have HOb10 := Lib.hid (HO9b.out.keep (hd10.below _))
                have HB10 : Hid (Below w3.heap.size w3 w10) := HB9.out.trans (hd10.below _)
                clear hd10 HO9 HO9b HB9 hne0
                by_cases hless : Y.length < Z.length
                · have HPE : Hid (bestRow L s (bestTo L s) (k + 1) = Y) := by
                    show _ = _
                    rw [HBR.out]
                    unfold pickB
                    rw [if_pos ⟨HCNE.out, .inr hless⟩]
                  rw [decide_eq_true hless]
                  go_wp2
                  go_roundw
                  case rel => exact ⟨k + 1, by omega, by go_num, by rw [HPE.out]; exact HO10.out.mono (by omega), HAN.out, HB10.out⟩
                  case measure => simp [intOf]; omega
                · have HPE : Hid (bestRow L s (bestTo L s) (k + 1) = Z) := by
                    show _ = _
                    rw [HBR.out]
                    unfold pickB
                    rw [if_neg (fun hh => by rcases hh.2 with h2 | h2; exact HB0.out h2; exact hless h2)]
                  rw [decide_eq_false hless]
                  go_wp2
                  go_roundw
                  case rel => exact ⟨k + 1, by omega, by go_num, by rw [HPE.out]; exact HOb10.out, HAN.out, HB10.out⟩
                  case measure => simp [intOf]; omega
          · obtain rfl : k = (nthR L s).length := by omega
            have HAN : Hid (AheadP (bestTo L (s + 1)) ((s + 1 : Nat) : Int) 0) := ahead_mono HAH2.out (.inl (by omega))
            clear hrow
            go_wp2
            go_roundw
            case rel => exact ⟨s + 1, by omega, by go_num, HO.out, HAN.out, HB.out⟩
            case measure => simp [intOf]; omega
      · obtain rfl : s = L.length := by omega
        obtain ⟨ab, cb, eb⟩ := HO4.out.row.slice
        subst eb
        have HF : Hid (GaveRow w (llL L) (.returned (.slice ab (bestTo L L.length).length cb)) w4) := by rw [HE.out]; exact ⟨_, _, _, rfl, HO4.out, HB3.out.trans (HB4.out.mono HB3.out.size)⟩
        go_wp2
        go_ret
        exact HF.out
  · have HE : Hid (llL L = []) := by show _ = _; unfold llL; rw [if_neg hG]
    rw [decide_eq_false hG]
    have HF : Hid (GaveRow w (llL L) (.returned (.slice (some ⟨w.heap.size + 1, 0, none⟩) 0 0)) w1) := by rw [HE.out]; exact ⟨_, _, _, rfl, HO1.out, HB1.out⟩
    clear hG
    go_wp2
    go_ret
    exact HF.out

end Go.Proofs.YtnjkhiheapmlmaaDoor
