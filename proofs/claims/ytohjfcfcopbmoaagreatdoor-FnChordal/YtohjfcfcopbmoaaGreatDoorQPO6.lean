/- The texts PO6, LL1, LL2, joined. -/
import Derived.Test.YtohjfcfcopbmoaaGreatDoorPO5
import Derived.Test.YtohjfcfcopbmoaaGreatDoorQC1
import Derived.Test.YtohjfcfcopbmoaaGreatDoorQS4
import Derived.Test.YtohjfcfcopbmoaaGreatDoorQFP1

/- Walks: PathOf, of the program. -/
namespace Go.Proofs.YtohjfcfcopbmoaaGreatDoor
open Go.RowKit

theorem poL_path {L : List (List Int)} (hG : GraphP L) {p s : Nat} (hp : p < L.length) (hs : s < L.length) : poL L (p : Int) (s : Int) = pathN (rowM L) L.length p s := by
  have h1 : inB (p : Int) 0 ((L.length : Int) - 1) = true := by simp [inB]; omega
  have h2 : inB (s : Int) 0 ((L.length : Int) - 1) = true := by simp [inB]; omega
  unfold poL poB pathN
  rw [decide_eq_true hG, h1, h2, Int.toNat_natCast, Int.toNat_natCast, nearM_eq hG]
  simp only [Bool.true_and, decide_eq_true_iff]
theorem poL_off {L : List (List Int)} {x y : Int} (h : (inB x 0 ((L.length : Int) - 1) && inB y 0 ((L.length : Int) - 1)) = false) : poL L x y = [] := by
  apply poL_no
  unfold poB
  rw [Bool.and_assoc (decide (GraphP L)), h]
  simp

set_option maxHeartbeats 4000000 in
set_option maxRecDepth 100000 in
theorem implPathOf_any (v : Value) (L : List (List Int)) (x y : Int) (w : World) (h : GridAt w v L) (_hx : I64 x) (_hy : I64 y) (hT : TabAt w) : Calls Tryz.prog 137 #[.agg #[v], .int .i64 x, .int .i64 y] w (GaveRow w (poL L x y)) := by
  obtain ⟨a0, c0, rfl⟩ := h.slice
  have ha : Below w.heap.size w (w.alloc (.cells #[.slice a0 L.length c0] 26)) := (Below.refl _ _).alloc (Nat.le_refl _) _
  have hk := h.keep ha
  have HA := Lib.hid ha
  clear ha
  go_enter Tryz.func137, Tryz.ntmps137
  go_wp2_with fail
  refine (netOf_any _ _ _ hk).mono ?_
  rintro e w1 ⟨rfl, hb1⟩
  have HB1 : Hid (Below w.heap.size w w1) := HA.out.trans (hb1.mono (by simp))
  have hz : w.heap.size ≤ w1.heap.size := HB1.out.size
  have hnb := netBlk_new w1 0 (fun _ => 0)
  clear hb1 hk h HA
  by_cases hG : GraphP L
  · have hzz := hG.1
    have HLT : Hid (∀ i, rowM L i < 65536) := fun i => rowM_lt (by omega) (fun v hv => (hG.2.1 v hv).1) i
    have HSY : Hid (∀ a b, nearM (rowM L) a b = nearM (rowM L) b a) := by rw [nearM_eq hG]; exact nearB_symm hG
    have HG := Lib.hid hG
    rw [decide_eq_true hG, netArr_yes hG]
    clear hG
    have hdx : Hid (decide (0 ≤ x ∧ x < (L.length : Int)) = inB x 0 ((L.length : Int) - 1)) := (inB_vertex _ _).symm
    have hdy : Hid (decide (0 ≤ y ∧ y < (L.length : Int)) = inB y 0 ((L.length : Int) - 1)) := (inB_vertex _ _).symm
    by_cases hinx : inB x 0 ((L.length : Int) - 1) = true
    · by_cases hiny : inB y 0 ((L.length : Int) - 1) = true
      · have hxx : 0 ≤ x ∧ x ≤ (L.length : Int) - 1 := by simpa [inB] using hinx
        have hyy : 0 ≤ y ∧ y ≤ (L.length : Int) - 1 := by simpa [inB] using hiny
        have HX := Lib.hid hinx
        have HY := Lib.hid hiny
        obtain ⟨p, rfl⟩ : ∃ p : Nat, x = (p : Int) := ⟨x.toNat, by omega⟩
        obtain ⟨s, rfl⟩ : ∃ s : Nat, y = (s : Int) := ⟨y.toNat, by omega⟩
        have hp : p < L.length := by omega
        have hs : s < L.length := by omega
        have HE := Lib.hid (poL_path HG.out hp hs)
        clear hinx hiny hxx hyy
        go_wp2_with (first | (refine wpList_store_net rfl 83 (.tmp 7) (.tmp 12) rfl w1.heap.size L.length (rowM L) rfl rfl Tryz.sizeNet 0 (fun _ => 0) hnb ?_; intro w3 hp3; have hn0 := hp3.net.at.1; have HNet := Lib.hid hp3.net.at; have HB3 : Hid (Below w.heap.size w w3) := (HB1.out.alloc hz _).trans (hp3.below.mono hz); clear hp3) | (go_at_call 170; refine (isVertex_any _ _ _).mono ?_; rintro e w' ⟨rfl, rfl⟩; first | rw [hdx.out, HX.out] | rw [hdy.out, HY.out]) | (go_at_call 189; refine (path_any _ L.length p s (rowM L) _ HNet.out (hT.keep HB3.out) HLT.out hzz HSY.out hp hs).mono ?_; rintro e w4 ⟨n4, a4, c4, rfl, ho4, hb4⟩; have HP : Hid (GaveRow w (poL L p s) (.returned (.slice a4 n4 c4)) w4) := (by rw [HE.out]; exact ⟨_, _, _, rfl, ho4.mono HB3.out.size, HB3.out.trans (hb4.mono HB3.out.size)⟩); clear ho4 hb4))
        go_ret
        exact HP.out
      · have hiny' : inB y 0 ((L.length : Int) - 1) = false := by simpa using hiny
        have HE : Hid (poL L x y = []) := poL_off (by rw [hiny']; simp)
        have HX := Lib.hid hinx
        have HY := Lib.hid hiny'
        clear hinx hiny hiny'
        go_wp2_with (first | (refine wpList_store_net rfl 83 (.tmp 7) (.tmp 12) rfl w1.heap.size L.length (rowM L) rfl rfl Tryz.sizeNet 0 (fun _ => 0) hnb ?_; intro w3 hp3; have hn0 := hp3.net.at.1; have HB3 : Hid (Below w.heap.size w w3) := (HB1.out.alloc hz _).trans (hp3.below.mono hz); clear hp3) | (go_at_call 170; refine (isVertex_any _ _ _).mono ?_; rintro e w' ⟨rfl, rfl⟩; first | rw [hdx.out, HX.out] | rw [hdy.out, HY.out]))
        go_ret
        exact ⟨0, none, 0, rfl, by rw [HE.out]; exact ⟨by simp, Nat.zero_le _, .inl ⟨rfl, rfl⟩⟩, HB3.out⟩
    · have hinx' : inB x 0 ((L.length : Int) - 1) = false := by simpa using hinx
      have HE : Hid (poL L x y = []) := poL_off (by rw [hinx']; simp)
      have HX := Lib.hid hinx'
      clear hinx hinx'
      go_wp2_with (first | (refine wpList_store_net rfl 83 (.tmp 7) (.tmp 12) rfl w1.heap.size L.length (rowM L) rfl rfl Tryz.sizeNet 0 (fun _ => 0) hnb ?_; intro w3 hp3; have hn0 := hp3.net.at.1; have HB3 : Hid (Below w.heap.size w w3) := (HB1.out.alloc hz _).trans (hp3.below.mono hz); clear hp3) | (go_at_call 170; refine (isVertex_any _ _ _).mono ?_; rintro e w' ⟨rfl, rfl⟩; rw [hdx.out, HX.out]))
      go_ret
      exact ⟨0, none, 0, rfl, by rw [HE.out]; exact ⟨by simp, Nat.zero_le _, .inl ⟨rfl, rfl⟩⟩, HB3.out⟩
  · have HE : Hid (poL L x y = []) := poL_no (by unfold poB; rw [decide_eq_false hG]; simp)
    rw [decide_eq_false hG, netArr_no hG]
    clear hG
    go_wp2_with (refine wpList_store_net rfl 83 (.tmp 7) (.tmp 12) rfl w1.heap.size 0 (fun _ => 0) rfl rfl Tryz.sizeNet 0 (fun _ => 0) hnb ?_; intro w3 hp; have HB3 : Hid (Below w.heap.size w w3) := (HB1.out.alloc hz _).trans (hp.below.mono hz); clear hp)
    go_ret
    exact ⟨0, none, 0, rfl, by rw [HE.out]; exact ⟨by simp, Nat.zero_le _, .inl ⟨rfl, rfl⟩⟩, HB3.out⟩

end Go.Proofs.YtohjfcfcopbmoaaGreatDoor

/- Plain facts: the least loop: a path back without the edge. -/
namespace Go.Proofs.YtohjfcfcopbmoaaGreatDoor

/-- The graph without an edge. -/
noncomputable def cutG (L : List (List Int)) (s u : Nat) : List (List Int) := cutEL L (s : Int) (u : Int)
theorem cutG_adj {L : List (List Int)} (hG : GraphP L) {s u : Nat} (hs : s < L.length) (hu : u < L.length) (h : adjB L s u = true) : cutG L s u = adjL L.length (unA (adjB L) s u) := by
  have hz := hG.1
  have hne : s ≠ u := fun e => by rw [e, adjB_self hG] at h; cases h
  have he : edgeB L (s : Int) (u : Int) = true := by rw [edgeB_adj hG hs hu]; exact h
  unfold cutG cutEL
  rw [if_pos he, Int.toNat_natCast, Int.toNat_natCast]
  have := cutEL_adj (adjB L) hs hu hz.2 hne
  rwa [graph_adjL hG] at this
theorem cutG_graph {L : List (List Int)} (hG : GraphP L) {s u : Nat} (hs : s < L.length) (hu : u < L.length) (h : adjB L s u = true) : GraphP (cutG L s u) := by rw [cutG_adj hG hs hu h]; exact unA_graph hG s u
theorem cutG_len {L : List (List Int)} (hG : GraphP L) {s u : Nat} (hs : s < L.length) (hu : u < L.length) (h : adjB L s u = true) : (cutG L s u).length = L.length := by rw [cutG_adj hG hs hu h, adjL_len]
/-- The masks without an edge. -/
def cutMs (M : Nat → Nat) (s u : Nat) (i : Nat) : Nat := if i = u then clrM (M u) (2 ^ s) else if i = s then clrM (M s) (2 ^ u) else M i
theorem cutMs_lt {M : Nat → Nat} (hM : ∀ i, M i < 65536) (s u i : Nat) : cutMs M s u i < 65536 := by
  unfold cutMs
  split
  · exact clrM_lt _ (hM _)
  · split
    · exact clrM_lt _ (hM _)
    · exact hM _
theorem cutMs_row {L : List (List Int)} (hG : GraphP L) {s u : Nat} (hs : s < L.length) (hu : u < L.length) (h : adjB L s u = true) : cutMs (rowM L) s u = rowM (cutG L s u) := by
  have hz := hG.1
  have hne : s ≠ u := fun e => by rw [e, adjB_self hG] at h; cases h
  have hlt : ∀ i, rowM L i < 65536 := fun i => rowM_lt (by omega) (fun v hv => (hG.2.1 v hv).1) i
  have hG' := unA_graph hG s u
  funext i
  refine bit_ext fun j => ?_
  have hr : (rowM (cutG L s u) i).testBit j = true ↔ unA (adjB L) s u i j = true := by
    rw [cutG_adj hG hs hu h]
    show adjB (adjL L.length (unA (adjB L) s u)) i j = true ↔ _
    constructor
    · intro hh
      have hrg := adjB_range hG' hh
      rw [adjL_len] at hrg
      rwa [adjB_adjL hG' hrg.1 (by omega)] at hh
    · intro hh
      have h1 : adjB L i j = true := by unfold unA at hh; rw [Bool.and_eq_true] at hh; exact hh.1
      have hrg := adjB_range hG h1
      rw [adjB_adjL hG' hrg.1 (by omega)]
      exact hh
  rw [hr]
  unfold cutMs unA
  by_cases e1 : i = u
  · subst e1
    rw [if_pos rfl, clrM_bit (hlt _) (pow_lt16 (by omega)), Nat.testBit_two_pow]
    show ((rowM L i).testBit j && !decide (s = j)) = true ↔ ((rowM L i).testBit j && _) = true
    have hi : (i == s) = false := by rw [beq_eq_false_iff_ne]; omega
    rw [hi]
    by_cases ej : s = j
    · subst ej; simp
    · have : (j == s) = false := by rw [beq_eq_false_iff_ne]; omega
      rw [this, decide_eq_false ej]; simp
  · rw [if_neg e1]
    have hi : (i == u) = false := by rw [beq_eq_false_iff_ne]; exact e1
    by_cases e2 : i = s
    · subst e2
      rw [if_pos rfl, clrM_bit (hlt _) (pow_lt16 (by omega)), Nat.testBit_two_pow]
      show ((rowM L i).testBit j && !decide (u = j)) = true ↔ ((rowM L i).testBit j && _) = true
      rw [hi]
      by_cases ej : u = j
      · subst ej; simp
      · have : (j == u) = false := by rw [beq_eq_false_iff_ne]; omega
        rw [this, decide_eq_false ej]; simp
    · have hi2 : (i == s) = false := by rw [beq_eq_false_iff_ne]; exact e2
      rw [if_neg e2, hi, hi2]
      show (rowM L i).testBit j = true ↔ ((rowM L i).testBit j && _) = true
      simp

/-- The way back from u to s without the edge. -/
noncomputable def backN (M : Nat → Nat) (n s u : Nat) : List Int := pathN (cutMs M s u) n u s
/-- The loop by an edge; nothing where there is none. -/
noncomputable def candN (M : Nat → Nat) (n s u : Nat) : List Int := if backN M n s u = [] then [] else (s : Int) :: (backN M n s u).take ((backN M n s u).length - 1)
theorem candN_no {M : Nat → Nat} {n s u : Nat} (h : backN M n s u = []) : candN M n s u = [] := by unfold candN; rw [if_pos h]
theorem candN_yes {M : Nat → Nat} {n s u : Nat} (h : backN M n s u ≠ []) : candN M n s u = (s : Int) :: (backN M n s u).take ((backN M n s u).length - 1) := by unfold candN; rw [if_neg h]
theorem backN_len {M : Nat → Nat} {n s u : Nat} (hn : n ≤ 16) : (backN M n s u).length ≤ 16 := by
  unfold backN pathN
  split
  · rw [wayD_len]
    have := dOf_lt (A := nearM (cutMs M s u)) (S := allS n) (v := s) (n := n) (fun u hu => (allS_iff _ _).1 hu) u
    omega
  · simp
theorem candN_len {M : Nat → Nat} {n s u : Nat} (hn : n ≤ 16) : (candN M n s u).length ≤ 16 := by
  have := backN_len (M := M) (s := s) (u := u) hn
  unfold candN
  split
  · simp
  · rename_i h
    have : 0 < (backN M n s u).length := List.length_pos_iff.2 h
    simp
    omega
theorem candN_ne {M : Nat → Nat} {n s u : Nat} (h : backN M n s u ≠ []) : candN M n s u ≠ [] := by rw [candN_yes h]; simp
theorem backN_i64 {M : Nat → Nat} {n s u : Nat} (hn : n ≤ 16) (hM : ∀ i, M i < 65536) (hA : ∀ a b, nearM (cutMs M s u) a b = nearM (cutMs M s u) b a) (hsu : s ≠ u) (h : backN M n s u ≠ []) : 2 ≤ (backN M n s u).length ∧ nth (backN M n s u) 0 = (u : Int) ∧ (∀ x ∈ backN M n s u, 0 ≤ x ∧ x < 16) := by
  have hS16 : ∀ x, allS n x = true → x < 16 := fun x hx => by have := (allS_iff _ _).1 hx; omega
  rcases Classical.em (∃ k, AtD (nearM (cutMs M s u)) (allS n) s k u) with ⟨k, hk⟩ | hn'
  · have hb : backN M n s u = wayD (cutMs M s u) (ringN (nearM (cutMs M s u)) (allS n) s) k u k := pathN_at hk
    have hstep := curD_step hA (cutMs_lt hM s u) (fun _ _ => rfl) hS16 hk
    rw [hb]
    refine ⟨?_, by rw [wayD_nth _ _ _ _ (Nat.zero_le _)]; rfl, fun x hx => ?_⟩
    · rw [wayD_len]
      have : k ≠ 0 := fun e => by
        subst e
        exact hsu (atD_zero.1 hk).1.symm
      omega
    · unfold wayD at hx
      rw [List.mem_map] at hx
      obtain ⟨j, hj, rfl⟩ := hx
      rw [List.mem_range] at hj
      have := hS16 _ (wk_in (hstep j (by omega)).1.1)
      omega
  · exact absurd (pathN_no (fun k hk => hn' ⟨k, hk⟩)) h

/-- The shorter of both, the first where they are equally long. -/
def pickB (b c : List Int) : List Int := if c ≠ [] ∧ (b = [] ∨ c.length < b.length) then c else b
/-- The best loop after the first k of a row. -/
noncomputable def bestRow (L : List (List Int)) (s : Nat) (b : List Int) : Nat → List Int
  | 0 => b
  | k + 1 => pickB (bestRow L s b k) (candN (rowM L) L.length s (nth (nthR L s) k).toNat)
/-- .. after the first s rows. -/
noncomputable def bestTo (L : List (List Int)) : Nat → List Int
  | 0 => []
  | s + 1 => bestRow L s (bestTo L s) (nthR L s).length
/-- What LeastLoop answers. -/
noncomputable def llL (L : List (List Int)) : List Int := if GraphP L then bestTo L L.length else []
theorem bestRow_len {L : List (List Int)} (hn : L.length ≤ 16) {s : Nat} {b : List Int} (hb : b.length ≤ 16) (k : Nat) : (bestRow L s b k).length ≤ 16 := by
  induction k with
  | zero => exact hb
  | succ k ih =>
    show (pickB _ _).length ≤ 16
    unfold pickB
    split
    · exact candN_len hn
    · exact ih
theorem bestTo_len {L : List (List Int)} (hn : L.length ≤ 16) (s : Nat) : (bestTo L s).length ≤ 16 := by
  induction s with
  | zero => exact Nat.zero_le _
  | succ s ih => exact bestRow_len hn ih _
theorem llL_small (L : List (List Int)) : (llL L).length ≤ 1048576 := by
  unfold llL
  split
  · rename_i hG
    have := bestTo_len hG.1.2 L.length
    omega
  · simp
/-- The best so far begins ahead of the edge s, u. -/
def AheadP (b : List Int) (s u : Int) : Prop := b = [] ∨ (2 ≤ b.length ∧ (nth b 0 < s ∨ (nth b 0 = s ∧ nth b 1 < u)))
theorem cand_two {M : Nat → Nat} {n s u : Nat} (hn : n ≤ 16) (hM : ∀ i, M i < 65536) (hA : ∀ a b, nearM (cutMs M s u) a b = nearM (cutMs M s u) b a) (hsu : s ≠ u) (h : candN M n s u ≠ []) : 2 ≤ (candN M n s u).length ∧ nth (candN M n s u) 0 = (s : Int) ∧ nth (candN M n s u) 1 = (u : Int) ∧ backN M n s u ≠ [] := by
  have hb : backN M n s u ≠ [] := fun e => h (candN_no e)
  obtain ⟨h1, h2, _⟩ := backN_i64 hn hM hA hsu hb
  rw [candN_yes hb]
  refine ⟨by simp; omega, by simp [nth], ?_, hb⟩
  have : nth ((s : Int) :: (backN M n s u).take ((backN M n s u).length - 1)) 1 = nth ((backN M n s u).take ((backN M n s u).length - 1)) 0 := by simp [nth]
  rw [this, nth_take (by omega), h2]
/-- Beside an earlier one, a new loop is less just if it is shorter. -/
theorem less_len {b c : List Int} {s u : Int} (hb : AheadP b s u) (hb0 : b ≠ []) (hc : 2 ≤ c.length ∧ nth c 0 = s ∧ nth c 1 = u) (hl : c.length = b.length) : ∃ i, i < c.length ∧ (∀ j, j < i → nth c j = nth b j) ∧ nth b i < nth c i := by
  rcases hb with h | ⟨h1, h2 | ⟨h2, h3⟩⟩
  · exact absurd h hb0
  · exact ⟨0, by omega, fun j hj => absurd hj (by omega), by rw [hc.2.1]; exact h2⟩
  · refine ⟨1, by omega, fun j hj => ?_, by rw [hc.2.2]; exact h3⟩
    obtain rfl : j = 0 := by omega
    rw [hc.2.1, h2]
theorem ahead_mono {b : List Int} {s u s' u' : Int} (h : AheadP b s u) (hlt : s < s' ∨ (s = s' ∧ u ≤ u')) : AheadP b s' u' := by
  rcases h with h | ⟨h1, h2⟩
  · exact .inl h
  · exact .inr ⟨h1, by omega⟩
theorem ahead_pick {b c : List Int} {s u u' : Int} (hb : AheadP b s u) (hc : c = [] ∨ (2 ≤ c.length ∧ nth c 0 = s ∧ nth c 1 = u)) (hu : u < u') : AheadP (pickB b c) s u' := by
  unfold pickB
  split
  · rcases hc with h | ⟨h1, h2, h3⟩
    · rename_i hh; exact absurd h hh.1
    · exact .inr ⟨h1, .inr ⟨h2, by omega⟩⟩
  · exact ahead_mono hb (.inr ⟨rfl, by omega⟩)

end Go.Proofs.YtohjfcfcopbmoaaGreatDoor

/- Walks: the least loop, of the model. -/
namespace Go.Proofs.YtohjfcfcopbmoaaGreatDoor
open Go.RowKit

set_option maxHeartbeats 2000000 in
/-- Of lists of one length, of which the first is greater where they part: the first is not less. -/
theorem l1Less_any (v v1 : Value) (xs ys : List Int) (w : World) (h : RowAt w v xs) (h1 : RowAt w v1 ys) (hlex : xs.length = ys.length → ∃ i, i < xs.length ∧ (∀ j, j < i → nth xs j = nth ys j) ∧ nth ys i < nth xs i) :
    Calls Tryz.prog 223 #[v, v1] w fun e w' => e = .returned (.bool (decide (xs.length < ys.length))) ∧ Drawn w w' := by
  obtain ⟨a0, c0, rfl⟩ := h.slice
  obtain ⟨a1, c1, rfl⟩ := h1.slice
  by_cases hl : xs.length = ys.length
  · obtain ⟨i, hi, heq, hgt⟩ := hlex hl
    obtain ⟨b, o, c, e0, l1, l2, hc⟩ := h.pos (by omega)
    obtain ⟨b1, o1, c1', e1, m1, m2, hc1⟩ := h1.pos (by omega)
    simp only [Value.slice.injEq, true_and] at e0 e1
    obtain ⟨rfl, rfl⟩ := e0
    obtain ⟨rfl, rfl⟩ := e1
    have HC : Hid (∀ j, j < xs.length → w.cell? ⟨b, o + j, none⟩ = some (.int .i64 (nth xs j)) ∧ w.cell? ⟨b1, o1 + j, none⟩ = some (.int .i64 (nth ys j))) := fun j hj => ⟨hc j hj, hc1 j (by omega)⟩
    have HEQ := Lib.hid heq
    have HGT := Lib.hid hgt
    have HL := Lib.hid hl
    rw [← hl] at m1 ⊢
    have q1 : ((xs.length : Int) != (xs.length : Int)) = false := by simp
    have hlm := h.len
    unfold maxLen at hlm
    clear hc hc1 heq hgt hl h h1 hlex
    go_enter Tryz.func223, Tryz.ntmps223
    go_wp2_with fail
    go_loopw [5] (fun iv wr => ∃ k : Nat, k ≤ i ∧ iv = .int .i64 k ∧ Drawn w wr) (fun iv _ => xs.length - (intOf iv).toNat)
    case atStart => exact ⟨0, Nat.zero_le _, rfl, Drawn.refl _⟩
    case round =>
      obtain ⟨k, hk, rfl, hd⟩ := hrel
      have hkl : k < xs.length := by omega
      obtain ⟨hx, hy⟩ := HC.out k hkl
      have hx' := cell_drawn hd hx
      have hy' := cell_drawn hd hy
      have HD := Lib.hid hd
      clear hx hy hd
      by_cases hki : k < i
      · rw [HEQ.out k hki] at hx'
        obtain ⟨z, hz⟩ : ∃ z, z = nth ys k := ⟨_, rfl⟩
        rw [← hz] at hx' hy'
        have q2 : (z != z) = false := by simp
        clear hz
        go_wp2
        go_quiet (fail)
        go_wp2
        go_roundw
        case rel => exact ⟨k + 1, by omega, by go_num, HD.out.more _⟩
        case measure => simp [intOf]; omega
      · obtain rfl : k = i := by omega
        have hg := HGT.out
        obtain ⟨z, hz⟩ : ∃ z, z = nth ys k := ⟨_, rfl⟩
        obtain ⟨y, hy⟩ : ∃ y, y = nth xs k := ⟨_, rfl⟩
        rw [← hz, ← hy] at hg
        rw [← hy] at hx'
        rw [← hz] at hy'
        have q2 : (y != z) = true := by rw [bne_iff_ne]; omega
        have q3 : decide (y < z) = false := by rw [decide_eq_false]; omega
        have q4 : ¬ (y < z) := by omega
        clear hz hy
        go_wp2
        go_quiet (fail)
        go_wp2
        go_quiet (fail)
        go_wp2
        go_ret
        exact ⟨ret_bool (by simp), (HD.out.more _).more _⟩
  · have q1 : ((xs.length : Int) != (ys.length : Int)) = true := by rw [bne_iff_ne]; omega
    have HD : Hid (decide ((xs.length : Int) < (ys.length : Int)) = decide (xs.length < ys.length)) := by show _ = _; rw [decide_eq_decide]; omega
    clear hlex h h1
    go_enter Tryz.func223, Tryz.ntmps223
    go_wp2
    go_ret
    exact ⟨by first | exact ret_bool HD.out | (simp), Drawn.refl _⟩

section
variable {L : List (List Int)}
theorem cutMs_symm (hG : GraphP L) {s u : Nat} (hs : s < L.length) (hu : u < L.length) (h : adjB L s u = true) : ∀ a b, nearM (cutMs (rowM L) s u) a b = nearM (cutMs (rowM L) s u) b a := by
  rw [cutMs_row hG hs hu h, nearM_eq (cutG_graph hG hs hu h)]
  exact nearB_symm (cutG_graph hG hs hu h)
theorem back_yes (hG : GraphP L) {s u k : Nat} (hs : s < L.length) (hu : u < L.length) (h : adjB L s u = true) (hk : AtD (nearB (cutG L s u)) (allS L.length) s k u) : backN (rowM L) L.length s u = wayD (rowM (cutG L s u)) (ringN (nearB (cutG L s u)) (allS L.length) s) k u k := by
  unfold backN
  rw [cutMs_row hG hs hu h]
  rw [← nearM_eq (cutG_graph hG hs hu h)] at hk ⊢
  exact pathN_at hk
theorem back_no (hG : GraphP L) {s u : Nat} (hs : s < L.length) (hu : u < L.length) (h : adjB L s u = true) (hk : dOf (nearB (cutG L s u)) (allS L.length) s u < 0) : backN (rowM L) L.length s u = [] := by
  unfold backN
  rw [cutMs_row hG hs hu h]
  refine pathN_no (fun k hk' => ?_)
  rw [nearM_eq (cutG_graph hG hs hu h)] at hk'
  rw [dOf_at hk'] at hk
  omega
/-- The next vertex of a row, 16 behind its end. -/
def nextU (row : List Int) (k : Nat) : Int := if k < row.length then nth row k else 16
end

end Go.Proofs.YtohjfcfcopbmoaaGreatDoor
