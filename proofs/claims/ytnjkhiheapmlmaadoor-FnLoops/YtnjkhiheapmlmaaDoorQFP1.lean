/- The texts FP1, FP2, joined. -/
import Derived.Test.YtnjkhiheapmlmaaDoorQZ1
import Derived.Test.YtnjkhiheapmlmaaDoorQZ3
import Derived.Test.YtnjkhiheapmlmaaDoorQH0
import Derived.Test.YtnjkhiheapmlmaaDoorQK2

/- Plain facts: the parts are connected, no two of them together, and they hold every vertex. -/
namespace Go.Proofs.YtnjkhiheapmlmaaDoor

theorem listM_pos {m : Nat} (hm : m < 65536) (h0 : m ≠ 0) : 0 < (listM m).length := by
  obtain ⟨h1, h2, _⟩ := leastM_spec h0 hm
  exact List.length_pos_of_mem ((listM_mem m _).2 ⟨leastM m, h1, h2, rfl⟩)
theorem listM_setP {m n : Nat} (hb : ∀ u, m.testBit u = true → u < n) : SetP (listM m) n :=
  SetP.mk (listM_set m).pairwise (fun x hx => by
    obtain ⟨i, _, h2, rfl⟩ := (listM_mem m x).1 hx
    have := hb i h2
    omega)
theorem maskTo_listM {m n : Nat} (hm : m < 65536) (hn : n ≤ 16) (hb : ∀ u, m.testBit u = true → u < n) : maskTo (listM m) (listM m).length = m := by
  have hs := listM_setP hb
  refine list_inj ?_ hm (set_list hn hs)
  exact maskTo_lt (n := n) (fun j hj => ⟨(hs j hj).1, (hs j hj).2.1⟩) (by omega) _ (Nat.le_refl _)
/-- Whether a set, told as a mask, is connected. -/
theorem conn_listM {L : List (List Int)} (hG : GraphP L) {m : Nat} (hm : m < 65536) (h0 : m ≠ 0) (hb : ∀ u, m.testBit u = true → u < L.length) : connB L (listM m) = true ↔ reachN (nearB L) (bitS m) (leastM m) = m := by
  have hs := listM_setP hb
  have hp := listM_pos hm h0
  have hk := conn_mask hG hs hp
  rw [maskTo_listM hm hG.1.2 hb, nearM_eq hG] at hk
  unfold connB setB
  rw [decide_eq_true hG, decide_eq_true hs, decide_eq_true hp]
  simp only [Bool.true_and, decide_eq_true_iff]
  exact hk.symm
section
variable {A : Nat → Nat → Bool} {n : Nat}
theorem compN_in (hn : n ≤ 16) {v u : Nat} (h : (compN A n v).testBit u = true) : u < n := (allS_iff _ _).1 ((compN_bit hn v u).1 h).mem
theorem part_reach (hA : ∀ a b, A a b = A b a) (hn : n ≤ 16) {v : Nat} (hv : v < n) : reachN A (bitS (compN A n v)) (leastM (compN A n v)) = compN A n v := by
  obtain ⟨h1, h2, h3⟩ := leastM_spec (compN_ne (A := A) hn hv) (compN_lt A n v)
  have hr := (compN_bit hn v _).1 h2
  refine bit_ext fun u => ?_
  rw [reachN_iff (bitS_lt (compN_lt _ _ _))]
  rw [reach_within (A := A) (S := allS n) (S' := bitS (compN A n v)) (fun u hu => (allS_iff _ _).2 (compN_in hn hu)) (fun a b ha hb hab => ?_) h2 u]
  · rw [compN_bit hn]
    exact ⟨fun h => hr.trans h, fun h => (hr.symm hA).trans h⟩
  · have h4 := (compN_bit hn v a).1 ha
    exact (compN_bit hn v b).2 (h4.trans ⟨1, hb, a, ⟨rfl, h4.mem⟩, hab⟩)
theorem reach_mono {S S' : Nat → Bool} (hsub : ∀ u, S' u = true → S u = true) {v u : Nat} (h : Reach A S' v u) : Reach A S v u := by
  obtain ⟨k, h⟩ := h
  refine ⟨k, ?_⟩
  induction k generalizing u with
  | zero => exact ⟨h.1, hsub _ h.2⟩
  | succ k ih => obtain ⟨hs, w, hw, ha⟩ := h; exact ⟨hsub _ hs, w, ih hw, ha⟩
theorem two_parts (hA : ∀ a b, A a b = A b a) (hn : n ≤ 16) {v w : Nat} (hv : v < n) (hw : w < n) (hhv : headN A n v = v) (hhw : headN A n w = w) (hne : v ≠ w) : reachN A (bitS (compN A n v ||| compN A n w)) (leastM (compN A n v ||| compN A n w)) ≠ compN A n v ||| compN A n w := by
  intro e
  have hl : compN A n v ||| compN A n w < 65536 := Nat.or_lt_two_pow (n := 16) (compN_lt _ _ _) (compN_lt _ _ _)
  have hS := bitS_lt hl
  have hin : ∀ u, bitS (compN A n v ||| compN A n w) u = true → allS n u = true := fun u hu => by
    unfold bitS at hu
    rw [Nat.testBit_or, Bool.or_eq_true] at hu
    rw [allS_iff]
    rcases hu with h | h
    · exact compN_in hn h
    · exact compN_in hn h
  have hkey : ∀ u, (compN A n v ||| compN A n w).testBit u = true → Reach A (allS n) (leastM (compN A n v ||| compN A n w)) u := fun u hu => by
    rw [← e] at hu
    exact reach_mono hin ((reachN_iff hS u).1 hu)
  have h1 := hkey v (by rw [Nat.testBit_or, compN_self hn hv]; rfl)
  have h2 := hkey w (by rw [Nat.testBit_or, compN_self hn hw]; simp)
  have h3 := headN_eq hA hn ((h1.symm hA).trans h2)
  rw [hhv, hhw] at h3
  exact hne h3.symm
theorem listM_bits (m : Nat) : (listM m).length = bitsTo m 16 := listTo_bits m 16
/-- How many vertices have a part that begins below k. -/
noncomputable def cntH (A : Nat → Nat → Bool) (n k : Nat) : Nat := sumTo (fun u => if headN A n u < k then 1 else 0) n
theorem compN_many (hA : ∀ a b, A a b = A b a) (hn : n ≤ 16) {v : Nat} (_hv : v < n) (hh : headN A n v = v) : (listM (compN A n v)).length = sumTo (fun u => if headN A n u = v then 1 else 0) n := by
  rw [listM_bits, bitsTo_sum, show (16 : Nat) = n + (16 - n) from by omega, sumTo_split _ n _ (fun i h1 h2 => ?_)]
  · refine sumTo_congr (fun u hu => ?_)
    have hiff : (compN A n v).testBit u = true ↔ headN A n u = v := by
      rw [compN_bit hn]
      constructor
      · intro h; rw [headN_eq hA hn h, hh]
      · intro h
        have := (headN_spec hA hn hu).2.1
        rw [h] at this
        exact this.symm hA
    by_cases h : headN A n u = v
    · rw [if_pos (hiff.2 h), if_pos h]
    · rw [if_neg (fun h' => h (hiff.1 h')), if_neg h]
  · rw [if_neg]
    intro h
    have := compN_in (A := A) hn h
    omega
theorem heads_sum (hA : ∀ a b, A a b = A b a) (hn : n ≤ 16) : ∀ k, k ≤ n → ((headsTo A n k).map (fun v => (listM (compN A n v)).length)).sum = cntH A n k := by
  intro k
  induction k with
  | zero =>
    intro _
    show _ = cntH A n 0
    unfold cntH
    rw [sumTo_zero (fun i _ => by simp)]
    rfl
  | succ k ih =>
    intro hk
    have hstep : cntH A n (k + 1) = cntH A n k + sumTo (fun u => if headN A n u = k then 1 else 0) n := by
      unfold cntH
      rw [← sumTo_add]
      refine sumTo_congr (fun u _ => ?_)
      by_cases h1 : headN A n u < k
      · rw [if_pos h1, if_pos (by omega), if_neg (by omega)]
      · by_cases h2 : headN A n u = k
        · rw [if_neg h1, if_pos (by omega), if_pos h2]
        · rw [if_neg h1, if_neg (by omega), if_neg h2]
    by_cases hh : headN A n k = k
    · rw [headsTo_succ hh, List.map_append, List.sum_append, ih (by omega), hstep, ← compN_many hA hn (by omega) hh]
      simp
    · have hsame : headsTo A n (k + 1) = headsTo A n k := headsTo_same (by omega) (fun v h1 h2 e => by
        have e2 : v = k := by omega
        rw [e2] at e
        exact hh e)
      rw [hsame, ih (by omega), hstep]
      rw [sumTo_zero (fun u hu => if_neg (fun e => ?_)), Nat.add_zero]
      have := (headN_spec hA hn hu).2.2.1
      rw [e] at this
      exact hh this
theorem parts_sum (hA : ∀ a b, A a b = A b a) (hn : n ≤ 16) : ((headsTo A n n).map (fun v => (listM (compN A n v)).length)).sum = n := by
  rw [heads_sum hA hn n (Nat.le_refl _)]
  unfold cntH
  have : ∀ m, sumTo (fun _ => 1) m = m := fun m => by
    induction m with
    | zero => rfl
    | succ m ih => simp [sumTo, ih]
  rw [sumTo_congr (g := fun _ => 1) (fun u hu => if_pos ?_), this]
  have := (headN_spec hA hn hu).1
  omega
theorem headsTo_mem {k v : Nat} : v ∈ headsTo A n k ↔ v < k ∧ headN A n v = v := by
  unfold headsTo
  rw [List.mem_filter, List.mem_range, beq_iff_eq]
theorem headsTo_nodup (k : Nat) : (headsTo A n k).Nodup := List.nodup_range.filter _
end

/-- Sorted, without repeating: what is in one of both. -/
def bothM (xs ys : List Int) : Nat := pm (fun v => hasB xs (v : Int) || hasB ys (v : Int))
def bothL (xs ys : List Int) : List Int := listM (bothM xs ys)
theorem bothM_lt (xs ys : List Int) : bothM xs ys < 65536 := pm_lt _
theorem hasB_listM {m u : Nat} (hu : u < 16) : hasB (listM m) (u : Int) = m.testBit u := by
  rw [Bool.eq_iff_iff, hasB_mem, listM_mem]
  constructor
  · rintro ⟨i, _, h2, h3⟩
    obtain rfl : i = u := by omega
    exact h2
  · intro h; exact ⟨u, hu, h, rfl⟩
theorem both_masks {a b : Nat} (ha : a < 65536) (hb : b < 65536) : bothM (listM a) (listM b) = a ||| b := by
  refine bit_ext fun u => ?_
  unfold bothM
  rw [pm_bit, Nat.testBit_or, Bool.and_eq_true, decide_eq_true_iff]
  constructor
  · rintro ⟨h1, h2⟩; rwa [hasB_listM h1, hasB_listM h1] at h2
  · intro h
    have hu : u < 16 := by
      rw [Bool.or_eq_true] at h
      rcases h with h | h
      · exact bitS_lt ha u h
      · exact bitS_lt hb u h
    exact ⟨hu, by rw [hasB_listM hu, hasB_listM hu]; exact h⟩

section
variable {L : List (List Int)}
theorem partsL_heads (hG : GraphP L) : partsL L = (headsTo (nearB L) L.length L.length).map (fun v => listM (compN (nearB L) L.length v)) := by
  unfold partsL
  rw [if_pos hG, ← headsTo_map, List.map_map]
  rfl
theorem partsL_at (hG : GraphP L) {i : Nat} (hi : i < (partsL L).length) : ∃ v, v < L.length ∧ headN (nearB L) L.length v = v ∧ nthR (partsL L) i = listM (compN (nearB L) L.length v) ∧ (headsTo (nearB L) L.length L.length)[i]? = some v := by
  rw [partsL_heads hG] at hi ⊢
  rw [List.length_map] at hi
  have hm := headsTo_mem.1 (List.getElem_mem hi)
  exact ⟨_, hm.1, hm.2, by simp [nthR, hi], by simp [hi]⟩
theorem part_conn (hG : GraphP L) {i : Nat} (hi : i < (partsL L).length) : connB L (nthR (partsL L) i) = true := by
  have hz := hG.1
  obtain ⟨v, h1, h2, h3, _⟩ := partsL_at hG hi
  rw [h3, conn_listM hG (compN_lt _ _ _) (compN_ne hz.2 h1) (fun u hu => compN_in hz.2 hu)]
  exact part_reach (nearB_symm hG) hz.2 h1
theorem parts_apart (hG : GraphP L) {k i : Nat} (hk : k < i) (hi : i < (partsL L).length) : connB L (bothL (nthR (partsL L) k) (nthR (partsL L) i)) = false := by
  have hz := hG.1
  obtain ⟨v, h1, h2, h3, h4⟩ := partsL_at hG (i := k) (by omega)
  obtain ⟨x, k1, k2, k3, k4⟩ := partsL_at hG hi
  have hne : v ≠ x := by
    intro e
    rw [← e] at k4
    have := (List.getElem?_inj (by have := (List.getElem?_eq_some_iff.1 h4).1; exact this) (headsTo_nodup _)).1 (h4.trans k4.symm)
    omega
  rw [h3, k3]
  unfold bothL
  rw [both_masks (compN_lt _ _ _) (compN_lt _ _ _)]
  rw [Bool.eq_false_iff]
  intro hc
  have hl : compN (nearB L) L.length v ||| compN (nearB L) L.length x < 65536 := Nat.or_lt_two_pow (n := 16) (compN_lt _ _ _) (compN_lt _ _ _)
  refine two_parts (nearB_symm hG) hz.2 h1 k1 h2 k2 hne ((conn_listM hG hl ?_ ?_).1 hc)
  · intro e
    have h5 := compN_self (A := nearB L) hz.2 h1
    have h6 : (compN (nearB L) L.length v ||| compN (nearB L) L.length x).testBit v = true := by rw [Nat.testBit_or, h5]; rfl
    rw [e] at h6
    simp at h6
  · intro u hu
    rw [Nat.testBit_or, Bool.or_eq_true] at hu
    rcases hu with h | h
    · exact compN_in hz.2 h
    · exact compN_in hz.2 h
/-- How many vertices the first k parts have. -/
noncomputable def partsSum (L : List (List Int)) (k : Nat) : Nat := (((partsL L).take k).map List.length).sum
theorem partsSum_succ {k : Nat} (hk : k < (partsL L).length) : partsSum L (k + 1) = partsSum L k + (nthR (partsL L) k).length := by
  unfold partsSum
  rw [List.take_succ_eq_append_getElem hk, List.map_append, List.sum_append, nthR_eq hk]
  simp
theorem partsSum_all (hG : GraphP L) : partsSum L (partsL L).length = L.length := by
  unfold partsSum
  rw [List.take_length, partsL_heads hG, List.map_map]
  exact parts_sum (nearB_symm hG) hG.1.2
theorem partsSum_le (hG : GraphP L) (k : Nat) (hk : k ≤ (partsL L).length) : partsSum L k ≤ L.length := by
  rw [← partsSum_all hG]
  have : ∀ d, k + d ≤ (partsL L).length → partsSum L k ≤ partsSum L (k + d) := by
    intro d
    induction d with
    | zero => intro _; exact Nat.le_refl _
    | succ d ih =>
      intro h
      have h1 := ih (by omega)
      have h2 := partsSum_succ (L := L) (k := k + d) (by omega)
      rw [show k + (d + 1) = k + d + 1 from rfl, h2]
      omega
  have h := this ((partsL L).length - k) (by omega)
  rwa [show k + ((partsL L).length - k) = (partsL L).length from by omega] at h
end

end Go.Proofs.YtnjkhiheapmlmaaDoor

/- Walks: what is in one of both; a graph drawn. -/
namespace Go.Proofs.YtnjkhiheapmlmaaDoor
open Go.RowKit

theorem bothM_bit (xs ys : List Int) (k : Nat) (hk : k < 16) : (bothM xs ys).testBit k = (hasB xs (k : Int) || hasB ys (k : Int)) := by
  unfold bothM
  rw [pm_bit, decide_eq_true hk]
  rfl

theorem lit_one (w : World) (x : Int) (T : TypeId) : ∀ j u, ([Value.int .i64 x] : List Value)[j]? = some u → (w.alloc (.cells #[.int .i64 x] T)).cell? ((⟨w.heap.size, 0, none⟩ : Addr).add j) = some u := by
  intro j u hj
  match j, hj with
  | 0, hj => simp at hj; subst hj; simp [Addr.add]
theorem one_one (x : Int) : ∀ u ∈ ([Value.int .i64 x] : List Value), u.oneCell' = true := by
  intro u hu; simp at hu; subst hu; rfl

set_option maxHeartbeats 4000000 in
set_option maxRecDepth 100000 in
theorem w5Both_any (v v1 : Value) (xs ys : List Int) (w : World) (h : RowAt w v xs) (h1 : RowAt w v1 ys) (hl0 : xs.length ≤ 1000) (hl1 : ys.length ≤ 1000) : Calls Tryd.prog 21 #[v, v1] w (GaveRow w (bothL xs ys)) := by
  obtain ⟨i0, hi, hz0, hz1, hz2⟩ := info_parts Tryd.infoI
  obtain ⟨a0, c0, rfl⟩ := h.slice
  obtain ⟨a1, c1, rfl⟩ := h1.slice
  have HR0 := Lib.hid h
  have HR1 := Lib.hid h1
  have hown0 : (w.alloc (.cells #[] 2)).ownsRow w.heap.size 2 1 (.slice (some ⟨w.heap.size, 0, none⟩) 0 0) 0 [] := World.ownsRow_lit w #[] 0 (Nat.le_refl _) (Nat.zero_le _) rfl
  have HO0 := Lib.hid hown0
  clear h h1 hown0
  go_enter Tryd.func21, Tryd.ntmps21
  go_wp2_with fail
  go_loopw [5, 6] (fun s i wr => ∃ k : Nat, k ≤ 16 ∧ i = .int .i64 k ∧ OwnRow 2 wr w.heap.size s (listTo (bothM xs ys) k) ∧ Below w.heap.size w wr) (fun _ i _ => 16 - (intOf i).toNat)
  case atStart => exact ⟨0, Nat.zero_le _, rfl, OwnRow.of_ownsRow (n := 0) (xs := []) HO0.out (Nat.zero_le _) (fun x hx => absurd hx (by simp)), (Below.refl _ _).alloc (Nat.le_refl _) _⟩
  case round =>
    obtain ⟨k, hk, rfl, ho, hb⟩ := hrel
    have hpl := listTo_len (bothM xs ys) k
    obtain ⟨a3, c3, e3⟩ := ho.row.slice
    subst e3
    have HO := Lib.hid ho
    have HB := Lib.hid hb
    have hz3 : w.heap.size ≤ wr.heap.size := hb.size
    have HX := Lib.hid (HR0.out.keep hb)
    have HY := Lib.hid (HR1.out.keep hb)
    have HLS := Lib.hid (listTo_succ (bothM xs ys) k)
    clear ho hb
    by_cases hlt : k < 16
    · have HBT := Lib.hid (bothM_bit xs ys k hlt)
      go_wp2_with fail
      go_loop [5, 7] (fun s i => ∃ q : Nat, q ≤ xs.length + ys.length ∧ s = .slice a3 (listTo (bothM xs ys) k).length c3 ∧ i = .int .i64 q ∧ ∀ j, j < q → (j < xs.length → nth xs j ≠ (k : Int)) ∧ (xs.length ≤ j → nth ys (j - xs.length) ≠ (k : Int))) (fun _ i => xs.length + ys.length - (intOf i).toNat)
      case atStart => exact ⟨0, Nat.zero_le _, rfl, rfl, fun j hj => absurd hj (by omega)⟩
      case round =>
        obtain ⟨q, hq, rfl, rfl, hnot⟩ := hrel
        have HNOT := Lib.hid hnot
        clear hnot
        by_cases hql : q < xs.length + ys.length
        · by_cases hqx : q < xs.length
          · obtain ⟨b, o, c, e1, l1, l2, hc⟩ := HX.out.pos (by omega)
            simp only [Value.slice.injEq, true_and] at e1
            obtain ⟨rfl, rfl⟩ := e1
            have hcq := hc q hqx
            clear hc
            by_cases hit : nth xs q = (k : Int)
            · rw [hit] at hcq
              have HPE : Hid (listTo (bothM xs ys) (k + 1) = listTo (bothM xs ys) k ++ [(k : Int)]) := by
                show _ = _
                rw [HLS.out, HBT.out, (hasB_iff _ _).2 ⟨q, hqx, hit⟩]
                rfl
              clear hit
              go_wp2_with (at_builtin; refine wpList_append_own _ rfl (.tmp 51) (.tmp 53) 28 rfl w.heap.size 2 i0 (.int .i64 0) 1 8 Tryd.underlying28 hi hz0 hz1 hz2 rfl (by decide) _ _ _ rfl (HO.out.owns.alloc _) ⟨wr.heap.size, 0, none⟩ 1 1 [.int .i64 (k : Int)] rfl rfl (lit_one _ _ _) (one_one _) (by unfold maxLen; omega) (by omega) (by simp; omega) ?_)
              intro v4 w4 hown4 hgrow4 _
              have hb4 : Below w.heap.size w w4 := (HB.out.alloc hz3 _).grown hgrow4 (by simp; omega) (fun j hj => (HO.out.lt j hj).1)
              have HO4 : Hid (OwnRow 2 w4 w.heap.size v4 (listTo (bothM xs ys) (k + 1))) := OwnRow.of_ownsRow (n := (listTo (bothM xs ys) k).length + 1) (by rw [HPE.out]; simpa using hown4) (by rw [HPE.out]; simp; unfold maxLen; omega) (fun x hx => by
                rw [HPE.out] at hx
                rcases List.mem_append.1 hx with hx | hx
                · exact HO.out.1 x hx
                · simp at hx; subst hx; unfold I64; omega)
              have HB4 := Lib.hid hb4
              clear hown4 hgrow4 hb4
              go_wp2
              go_roundw
              case rel => exact ⟨k + 1, by omega, by go_num, HO4.out, HB4.out⟩
              case measure => simp [intOf]; omega
            · have hne : (nth xs q == (k : Int)) = false := by rw [beq_eq_false_iff_ne]; exact hit
              have hge : ¬ (xs.length ≤ q) := by omega
              have HH := Lib.hid hit
              clear hit
              go_wp2
              go_round
              case rel =>
                refine ⟨q + 1, by omega, rfl, by go_num, fun j hj => ?_⟩
                rcases Nat.lt_succ_iff_lt_or_eq.1 hj with h' | rfl
                · exact HNOT.out j h'
                · exact ⟨fun _ => HH.out, fun h => absurd h (by omega)⟩
              case measure => simp [intOf]; omega
          · obtain ⟨p, rfl⟩ : ∃ p, q = xs.length + p := ⟨q - xs.length, by omega⟩
            have hpl2 : p < ys.length := by omega
            obtain ⟨b, o, c, e1, l1, l2, hc⟩ := HY.out.pos (by omega)
            simp only [Value.slice.injEq, true_and] at e1
            obtain ⟨rfl, rfl⟩ := e1
            have hcq := hc p hpl2
            clear hc
            by_cases hit : nth ys p = (k : Int)
            · rw [hit] at hcq
              have HPE : Hid (listTo (bothM xs ys) (k + 1) = listTo (bothM xs ys) k ++ [(k : Int)]) := by
                show _ = _
                rw [HLS.out, HBT.out, (hasB_iff ys _).2 ⟨p, hpl2, hit⟩, Bool.or_true]
                rfl
              clear hit
              go_wp2_with (at_builtin; refine wpList_append_own _ rfl (.tmp 51) (.tmp 53) 28 rfl w.heap.size 2 i0 (.int .i64 0) 1 8 Tryd.underlying28 hi hz0 hz1 hz2 rfl (by decide) _ _ _ rfl (HO.out.owns.alloc _) ⟨wr.heap.size, 0, none⟩ 1 1 [.int .i64 (k : Int)] rfl rfl (lit_one _ _ _) (one_one _) (by unfold maxLen; omega) (by omega) (by simp; omega) ?_)
              intro v4 w4 hown4 hgrow4 _
              have hb4 : Below w.heap.size w w4 := (HB.out.alloc hz3 _).grown hgrow4 (by simp; omega) (fun j hj => (HO.out.lt j hj).1)
              have HO4 : Hid (OwnRow 2 w4 w.heap.size v4 (listTo (bothM xs ys) (k + 1))) := OwnRow.of_ownsRow (n := (listTo (bothM xs ys) k).length + 1) (by rw [HPE.out]; simpa using hown4) (by rw [HPE.out]; simp; unfold maxLen; omega) (fun x hx => by
                rw [HPE.out] at hx
                rcases List.mem_append.1 hx with hx | hx
                · exact HO.out.1 x hx
                · simp at hx; subst hx; unfold I64; omega)
              have HB4 := Lib.hid hb4
              clear hown4 hgrow4 hb4
              go_wp2
              go_roundw
              case rel => exact ⟨k + 1, by omega, by go_num, HO4.out, HB4.out⟩
              case measure => simp [intOf]; omega
            · have hne : (nth ys p == (k : Int)) = false := by rw [beq_eq_false_iff_ne]; exact hit
              have HH := Lib.hid hit
              clear hit
              go_wp2
              go_round
              case rel =>
                refine ⟨xs.length + p + 1, by omega, by omega, fun j hj => ?_⟩
                rcases Nat.lt_succ_iff_lt_or_eq.1 hj with h' | rfl
                · exact HNOT.out j h'
                · exact ⟨fun h => absurd h (by omega), fun _ => by rw [Nat.add_sub_cancel_left]; exact HH.out⟩
              case measure => simp [intOf]; omega
        · obtain rfl : q = xs.length + ys.length := by omega
          have HPE : Hid (listTo (bothM xs ys) (k + 1) = listTo (bothM xs ys) k) := by
            show _ = _
            have h1 : hasB xs (k : Int) = false := by
              rw [← Bool.not_eq_true, hasB_iff]
              rintro ⟨i, hi, e⟩
              exact (HNOT.out i (by omega)).1 hi e
            have h2 : hasB ys (k : Int) = false := by
              rw [← Bool.not_eq_true, hasB_iff]
              rintro ⟨i, hi, e⟩
              exact (HNOT.out (xs.length + i) (by omega)).2 (by omega) (by rw [Nat.add_sub_cancel_left]; exact e)
            rw [HLS.out, HBT.out, h1, h2]
            simp
          go_wp2
          go_roundw
          case rel => exact ⟨k + 1, by omega, by go_num, by rw [HPE.out]; exact HO.out, HB.out⟩
          case measure => simp [intOf]; omega
    · obtain rfl : k = 16 := by omega
      have HF : Hid (GaveRow w (bothL xs ys) (.returned (.slice a3 (listTo (bothM xs ys) 16).length c3)) wr) := ⟨_, _, _, rfl, HO.out, HB.out⟩
      go_wp2
      go_ret
      exact HF.out

end Go.Proofs.YtnjkhiheapmlmaaDoor
