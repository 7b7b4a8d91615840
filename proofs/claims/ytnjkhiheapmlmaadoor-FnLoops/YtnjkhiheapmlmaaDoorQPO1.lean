/- The texts PO1, PO2, joined. -/
import Derived.Test.YtnjkhiheapmlmaaDoorQY1
import Derived.Test.YtnjkhiheapmlmaaDoorQH0
import Derived.Test.YtnjkhiheapmlmaaDoorQZ1
import Derived.Test.YtnjkhiheapmlmaaDoorQFP1

/- Plain facts: the least path down the distances. -/
namespace Go.Proofs.YtnjkhiheapmlmaaDoor

/-- Where one stands after some steps down from u, whose distance is d. -/
def curD (M R : Nat → Nat) (d u : Nat) : Nat → Nat
  | 0 => u
  | i + 1 => leastM (M (curD M R d u i) &&& R (d - 1 - i))
/-- The way of the first i steps. -/
def wayD (M R : Nat → Nat) (d u i : Nat) : List Int := (List.range (i + 1)).map (fun j => (curD M R d u j : Int))
theorem wayD_len (M R : Nat → Nat) (d u i : Nat) : (wayD M R d u i).length = i + 1 := by simp [wayD]
theorem wayD_zero (M R : Nat → Nat) (d u : Nat) : wayD M R d u 0 = [(u : Int)] := rfl
theorem wayD_succ (M R : Nat → Nat) (d u i : Nat) : wayD M R d u (i + 1) = wayD M R d u i ++ [(curD M R d u (i + 1) : Int)] := by
  unfold wayD
  rw [List.range_succ, List.map_append]
  rfl
theorem wayD_nth (M R : Nat → Nat) (d u : Nat) {i j : Nat} (hj : j ≤ i) : nth (wayD M R d u i) j = (curD M R d u j : Int) := by
  rw [nth_eq (by rw [wayD_len]; omega)]
  simp [wayD]
theorem curD_congr {M R R' : Nat → Nat} {d u : Nat} (h : ∀ k, k < d → R k = R' k) : ∀ i, i ≤ d → curD M R d u i = curD M R' d u i := by
  intro i
  induction i with
  | zero => intro _; rfl
  | succ i ih =>
    intro hi
    show leastM _ = leastM _
    rw [ih (by omega), h _ (by omega)]
theorem wayD_congr {M R R' : Nat → Nat} {d u : Nat} (h : ∀ k, k < d → R k = R' k) (i : Nat) (hi : i ≤ d) : wayD M R d u i = wayD M R' d u i := by
  unfold wayD
  apply List.map_congr_left
  intro j hj
  rw [List.mem_range] at hj
  rw [curD_congr h j (by omega)]

section
variable {A : Nat → Nat → Bool} {S : Nat → Bool} {v : Nat} {M : Nat → Nat}
theorem curD_step (hA : ∀ a b, A a b = A b a) (hM : ∀ i, M i < 65536) (hMA : ∀ a b, A a b = (M a).testBit b) (hS : ∀ u, S u = true → u < 16) {d u : Nat} (h : AtD A S v d u) : ∀ i, i ≤ d → AtD A S v (d - i) (curD M (ringN A S v) d u i) ∧ (i < d → M (curD M (ringN A S v) d u i) &&& ringN A S v (d - 1 - i) ≠ 0) := by
  have hne : ∀ (k x : Nat), AtD A S v (k + 1) x → M x &&& ringN A S v k ≠ 0 := by
    intro k x hx e
    obtain ⟨y, hy, hyx⟩ := atD_pred hx
    have h1 : (M x &&& ringN A S v k).testBit y = true := by
      rw [Nat.testBit_and, ← hMA, hA, hyx, (ringN_bit hS k y).2 hy]; rfl
    rw [e] at h1
    simp at h1
  intro i
  induction i with
  | zero =>
    intro _
    refine ⟨h, fun h0 => ?_⟩
    refine hne _ _ ?_
    rw [show d - 1 - 0 + 1 = d from by omega]
    exact h
  | succ i ih =>
    intro hi
    obtain ⟨h1, h2⟩ := ih (by omega)
    have h3 := h2 (by omega)
    have hlt : M (curD M (ringN A S v) d u i) &&& ringN A S v (d - 1 - i) < 65536 := Nat.lt_of_le_of_lt Nat.and_le_left (hM _)
    obtain ⟨h4, h5, _⟩ := leastM_spec h3 hlt
    rw [Nat.testBit_and, Bool.and_eq_true] at h5
    have h6 : AtD A S v (d - 1 - i) (curD M (ringN A S v) d u (i + 1)) := (ringN_bit hS _ _).1 h5.2
    refine ⟨by rw [show d - (i + 1) = d - 1 - i from by omega]; exact h6, fun h7 => ?_⟩
    refine hne _ _ ?_
    rw [show d - 1 - (i + 1) + 1 = d - 1 - i from by omega]
    exact h6
theorem curD_near (hA : ∀ a b, A a b = A b a) (hM : ∀ i, M i < 65536) (hMA : ∀ a b, A a b = (M a).testBit b) (hS : ∀ u, S u = true → u < 16) {d u : Nat} (h : AtD A S v d u) {i : Nat} (hi : i < d) : A (curD M (ringN A S v) d u i) (curD M (ringN A S v) d u (i + 1)) = true := by
  have h3 := (curD_step hA hM hMA hS h i (by omega)).2 hi
  have hlt : M (curD M (ringN A S v) d u i) &&& ringN A S v (d - 1 - i) < 65536 := Nat.lt_of_le_of_lt Nat.and_le_left (hM _)
  obtain ⟨_, h5, _⟩ := leastM_spec h3 hlt
  rw [Nat.testBit_and, Bool.and_eq_true] at h5
  rw [hMA]
  exact h5.1
end

/-- The first of a set that is in another mask, by place. -/
theorem first_least {m R k : Nat} (hm : m < 65536) (hk : k < (listM m).length) (hR : R.testBit (nth (listM m) k).toNat = true) (hn : ∀ j, j < k → R.testBit (nth (listM m) j).toNat = false) : leastM (m &&& R) = (nth (listM m) k).toNat := by
  obtain ⟨x, hx16, hxb, hxe⟩ := (listM_mem m _).1 (nth_mem hk)
  rw [← hxe, Int.toNat_natCast] at hR ⊢
  have hb : (m &&& R).testBit x = true := by rw [Nat.testBit_and, hxb, hR]; rfl
  have h0 : m &&& R ≠ 0 := fun e => by rw [e] at hb; simp at hb
  obtain ⟨h1, h2, h3⟩ := leastM_spec h0 (Nat.lt_of_le_of_lt Nat.and_le_left hm)
  rcases Nat.lt_trichotomy (leastM (m &&& R)) x with hlt | heq | hgt
  · exfalso
    rw [Nat.testBit_and, Bool.and_eq_true] at h2
    obtain ⟨j, hj, e⟩ := List.getElem_of_mem ((listM_mem m _).2 ⟨leastM (m &&& R), h1, h2.1, rfl⟩)
    have hjk : j < k := by
      rcases Nat.lt_trichotomy j k with h | h | h
      · exact h
      · subst h
        rw [nth_eq hj, e] at hxe
        omega
      · have := List.pairwise_iff_getElem.1 (listM_set m).pairwise k j hk hj h
        rw [e, ← nth_eq hk, ← hxe] at this
        omega
    have := hn j hjk
    rw [nth_eq hj, e, Int.toNat_natCast, h2.2] at this
    cases this
  · exact heq
  · have := h3 x hgt
    rw [hb] at this
    cases this
/-- .. and there is one, if the two meet. -/
theorem first_some {m R : Nat} (hm : m < 65536) (h : m &&& R ≠ 0) : ∃ k, k < (listM m).length ∧ R.testBit (nth (listM m) k).toNat = true := by
  obtain ⟨h1, h2, _⟩ := leastM_spec h (Nat.lt_of_le_of_lt Nat.and_le_left hm)
  rw [Nat.testBit_and, Bool.and_eq_true] at h2
  obtain ⟨j, hj, e⟩ := List.getElem_of_mem ((listM_mem m _).2 ⟨_, h1, h2.1, rfl⟩)
  exact ⟨j, hj, by rw [nth_eq hj, e, Int.toNat_natCast]; exact h2.2⟩

/-- Whether there is a path. -/
noncomputable def poB (L : List (List Int)) (x y : Int) : Bool := decide (GraphP L) && inB x 0 ((L.length : Int) - 1) && inB y 0 ((L.length : Int) - 1) && decide (0 ≤ dOf (nearB L) (allS L.length) y.toNat x.toNat)
/-- What PathOf answers. -/
noncomputable def poL (L : List (List Int)) (x y : Int) : List Int :=
  if poB L x y = true then wayD (rowM L) (ringN (nearB L) (allS L.length) y.toNat) (dOf (nearB L) (allS L.length) y.toNat x.toNat).toNat x.toNat (dOf (nearB L) (allS L.length) y.toNat x.toNat).toNat else []
theorem poL_no {L : List (List Int)} {x y : Int} (h : poB L x y = false) : poL L x y = [] := by unfold poL; rw [if_neg (by rw [h]; exact Bool.false_ne_true)]
theorem poL_small (L : List (List Int)) (x y : Int) : (poL L x y).length ≤ 1048576 := by
  unfold poL
  split
  · rename_i h
    rw [wayD_len]
    simp only [poB, Bool.and_eq_true, decide_eq_true_iff] at h
    have h1 := h.1.1.1.1
    have := dOf_lt (A := nearB L) (v := y.toNat) (S := allS L.length) (n := L.length) (fun u hu => (allS_iff _ _).1 hu) x.toNat
    omega
  · simp

end Go.Proofs.YtnjkhiheapmlmaaDoor

/- Walks: the least path, of the model. -/
namespace Go.Proofs.YtnjkhiheapmlmaaDoor
open Go.RowKit

/-- A slice's length. -/
def lenV : Value → Nat
  | .slice _ n _ => n
  | _ => 0
theorem wayD_i64 {M R : Nat → Nat} {d u : Nat} {i : Nat} (h : ∀ j, j ≤ i → curD M R d u j < 16) : ∀ x ∈ wayD M R d u i, I64 x := by
  intro x hx
  unfold wayD at hx
  rw [List.mem_map] at hx
  obtain ⟨j, hj, rfl⟩ := hx
  rw [List.mem_range] at hj
  have := h j (by omega)
  unfold I64; omega

set_option maxHeartbeats 8000000 in
set_option maxRecDepth 100000 in
theorem l3Down_any (v v1 : Value) (L : List (List Int)) (s d u : Nat) (w : World) (h : GridAt w v L) (hG : GraphP L) (h1 : RowAt w v1 (distL L.length (nearB L) (allS L.length) s)) (hat : AtD (nearB L) (allS L.length) s d u) :
    Calls Tryd.prog 48 #[.agg #[v], v1, .int .i64 (u : Int)] w (GaveRow w (wayD (rowM L) (ringN (nearB L) (allS L.length) s) d u d)) := by
  obtain ⟨i0, hi, hz0, hz1, hz2⟩ := info_parts Tryd.infoI
  have hz := hG.1
  have hS : ∀ u, allS L.length u = true → u < L.length := fun u hu => (allS_iff _ _).1 hu
  have hS16 : ∀ u, allS L.length u = true → u < 16 := fun u hu => by have := hS u hu; omega
  have hdn := atD_lt hS hat
  have HLT : Hid (∀ i, rowM L i < 65536) := fun i => rowM_lt (by omega) (fun v hv => (hG.2.1 v hv).1) i
  have hMA : ∀ a b, nearB L a b = (rowM L a).testBit b := fun a b => by rw [← nearM_eq hG]; rfl
  have HSTEP := Lib.hid (curD_step (M := rowM L) (nearB_symm hG) HLT.out hMA hS16 hat)
  have HRG := Lib.hid (ringN_bit (A := nearB L) (v := s) hS16)
  have HC16 : Hid (∀ i, i ≤ d → curD (rowM L) (ringN (nearB L) (allS L.length) s) d u i < L.length) := fun i hi => hS _ (wk_in (HSTEP.out i hi).1.1)
  have HRW : Hid (∀ x, x < L.length → listM (rowM L x) = nthR L x) := fun x hx => row_listM hG hx
  have HSET : Hid (∀ x, x < L.length → SetP (nthR L x) L.length) := fun x hx => (hG.2.1 x hx).1
  obtain ⟨b, o, c, A, C, rfl, l1, l2, hc⟩ := h.pos (by omega)
  obtain ⟨W1, hW1⟩ : ∃ W1, W1 = w.alloc (.cells #[.slice (some ⟨b, o, none⟩) L.length c] 26) := ⟨_, rfl⟩
  have hs1 : W1.heap.size = w.heap.size + 1 := by rw [hW1]; simp
  have ha : Below w.heap.size w W1 := by rw [hW1]; exact (Below.refl _ _).alloc (Nat.le_refl _) _
  have kb : W1.cell? ⟨w.heap.size, 0, none⟩ = some (.slice (some ⟨b, o, none⟩) L.length c) := by rw [hW1]; go_simp
  have HC : Hid (∀ i, i < L.length → W1.cell? ⟨b, o + i, none⟩ = some (.slice (A i) (nthR L i).length (C i)) ∧ RowAt W1 (.slice (A i) (nthR L i).length (C i)) (nthR L i)) := fun i hi => ⟨cell_keep ha (hc i hi).1, (hc i hi).2.keep ha⟩
  obtain ⟨fb, fo, fc, e1, f1, f2, hf⟩ := (h1.keep ha).pos (by rw [distL_len]; omega)
  rw [distL_len] at e1 f1
  subst e1
  have HF : Hid (∀ i, i < L.length → W1.cell? ⟨fb, fo + i, none⟩ = some (.int .i64 (dOf (nearB L) (allS L.length) s i))) := fun i hi => by have := hf i (by rw [distL_len]; exact hi); rwa [distL_nth hi] at this
  have KB := Lib.hid kb
  have HA := Lib.hid ha
  have HS1 := Lib.hid hs1
  have HW1 := Lib.hid hW1
  have hown0 : (W1.alloc (.cells #[.int .i64 (u : Int)] 2)).ownsRow W1.heap.size 2 1 (.slice (some ⟨W1.heap.size, 0, none⟩) 1 1) 1 [.int .i64 (u : Int)] := World.ownsRow_lit W1 #[.int .i64 (u : Int)] 1 (Nat.le_refl _) (by unfold maxLen; omega) rfl
  have hu16 : u < L.length := HC16.out 0 (Nat.zero_le _)
  have HO0 := Lib.hid hown0
  clear hc ha hs1 kb hW1 h h1 hG hf hown0 hat hMA hS hS16
  go_enter Tryd.func48, Tryd.ntmps48
  go_wp2_with fail
  rw [← HW1.out]
  rw [HS1.out] at HO0
  go_loopw [2, 7] (fun uv sv wr => ∃ i : Nat, i ≤ d ∧ uv = .int .i64 (curD (rowM L) (ringN (nearB L) (allS L.length) s) d u i : Int) ∧ OwnRow 2 wr (w.heap.size + 1) sv (wayD (rowM L) (ringN (nearB L) (allS L.length) s) d u i) ∧ Below W1.heap.size W1 wr) (fun _ sv _ => d + 1 - lenV sv)
  case atStart =>
    exact ⟨0, Nat.zero_le _, rfl, OwnRow.of_ownsRow (n := 1) (xs := [(u : Int)]) HO0.out (by simp; unfold maxLen; omega) (fun x hx => by simp at hx; subst hx; unfold I64; omega), (Below.refl _ _).alloc (Nat.le_refl _) _⟩
  case round =>
    obtain ⟨i, hi', rfl, ho, hb⟩ := hrel
    have hst := HSTEP.out i hi'
    have hxn := HC16.out i hi'
    have HWS := Lib.hid (wayD_succ (rowM L) (ringN (nearB L) (allS L.length) s) d u i)
    have HCS : Hid (curD (rowM L) (ringN (nearB L) (allS L.length) s) d u (i + 1) = leastM (rowM L (curD (rowM L) (ringN (nearB L) (allS L.length) s) d u i) &&& ringN (nearB L) (allS L.length) s (d - 1 - i))) := rfl
    obtain ⟨a3, c3, e3⟩ := ho.row.slice
    rw [wayD_len] at e3
    subst e3
    obtain ⟨x, hx⟩ : ∃ x, x = curD (rowM L) (ringN (nearB L) (allS L.length) s) d u i := ⟨_, rfl⟩
    rw [← hx] at hst hxn HCS ⊢
    have hfx := cell_keep hb (HF.out x hxn)
    rw [dOf_at hst.1] at hfx
    obtain ⟨r, hr⟩ : ∃ r, d - i = r := ⟨_, rfl⟩
    rw [hr] at hfx
    have hkb := cell_keep hb KB.out
    have HO := Lib.hid ho
    have HB := Lib.hid hb
    have hz3 : w.heap.size + 1 ≤ wr.heap.size := by have := hb.size; rw [HS1.out] at this; exact this
    clear ho
    by_cases hid : i < d
    · have hr1 : 1 ≤ r := by omega
      have hr16 : r ≤ 16 := by omega
      obtain ⟨k0, hk0, hkb0⟩ := first_some (HLT.out x) (hst.2 hid)
      rw [HRW.out x hxn] at hk0 hkb0
      have HK0 := Lib.hid hkb0
      have hck := cell_keep hb (HC.out x hxn).1
      obtain ⟨b1, o1, c1, e1, m1, m2, hcr⟩ := ((HC.out x hxn).2.keep hb).pos (by omega)
      simp only [Value.slice.injEq, true_and] at e1
      obtain ⟨eA, eC⟩ := e1
      rw [eA, eC] at hck
      have hrl : (nthR L x).length ≤ 16 := by have := (HSET.out x hxn).len (by omega); omega
      have HCR := Lib.hid hcr
      have HX := Lib.hid hx
      have HR := Lib.hid hr
      clear eA eC hcr hb hst hkb0 hx hr
      go_wp2_with fail
      go_loopw [2, 9] (fun uv kv wx => ∃ q : Nat, q ≤ (nthR L x).length ∧ uv = .int .i64 (x : Int) ∧ kv = .int .i64 q ∧ (∀ j, j < q → (ringN (nearB L) (allS L.length) s (d - 1 - i)).testBit (nth (nthR L x) j).toNat = false) ∧ Drawn wr wx) (fun _ kv _ => (nthR L x).length - (intOf kv).toNat)
      case atStart => exact ⟨0, Nat.zero_le _, rfl, rfl, fun j hj => absurd hj (by omega), Drawn.refl _⟩
      case round =>
        rename World => wx
        clear hck hkb
        obtain ⟨q, hq, rfl, rfl, hnot, hdr⟩ := hrel
        have HNOT := Lib.hid hnot
        have HDR := Lib.hid hdr
        by_cases hql : q < (nthR L x).length
        · have hst := HSET.out x hxn q hql
          obtain ⟨y, hy⟩ : ∃ y : Nat, nth (nthR L x) q = (y : Int) := ⟨(nth (nthR L x) q).toNat, by have := hst.1; omega⟩
          have hyn : y < L.length := by have := hst.2.1; omega
          have hcq := cell_drawn hdr (HCR.out q hql)
          rw [hy] at hcq
          have hfx' := cell_drawn hdr hfx
          have hfy := cell_drawn hdr (cell_keep HB.out (HF.out y hyn))
          have HY := Lib.hid hy
          by_cases hit : (ringN (nearB L) (allS L.length) s (d - 1 - i)).testBit y = true
          · have hdy := dOf_at ((HRG.out (d - 1 - i) y).1 hit)
            have hrr : ((d - 1 - i : Nat) : Int) = (r : Int) - 1 := by have := HR.out; omega
            rw [hdy, hrr] at hfy
            have HLE : Hid (curD (rowM L) (ringN (nearB L) (allS L.length) s) d u (i + 1) = y) := by
              show _ = _
              rw [HCS.out, first_least (HLT.out x) (k := q) (by rw [HRW.out x hxn]; exact hql) (by rw [HRW.out x hxn, hy, Int.toNat_natCast]; exact hit) (fun j hj => by rw [HRW.out x hxn]; exact hnot j hj), HRW.out x hxn, hy, Int.toNat_natCast]
            have hw1 : IntKind.i64.wrap ((r : Int) - 1) = (r : Int) - 1 := IntWalk.i64_in _ (by omega)
            have HOX := Lib.hid (HO.out.keep (hdr.below _))
            have HBX : Hid (Below W1.heap.size W1 wx) := HB.out.trans (hdr.below _)
            have hzx : w.heap.size + 1 ≤ wx.heap.size := by have := (hdr.below 0).size; omega
            have HOA : Hid (∀ n, OwnRow 2 (wx.drewN n) (w.heap.size + 1) (.slice a3 (i + 1) c3) (wayD (rowM L) (ringN (nearB L) (allS L.length) s) d u i)) := fun n => HOX.out.keep (below_drewN (Below.refl _ _) n)
            have HBA : Hid (∀ n, Below W1.heap.size W1 (wx.drewN n)) := fun n => below_drewN HBX.out n
            have HWL := Lib.hid (wayD_len (rowM L) (ringN (nearB L) (allS L.length) s) d u i)
            clear hdy hrr hit hy hdr hnot hst hfx
            go_wp2
            go_quiet (fail)
            go_wp2_with (at_builtin; refine wpList_append_own _ rfl (.tmp 45) (.tmp 47) 28 rfl (w.heap.size + 1) 2 i0 (.int .i64 0) 1 8 Tryd.underlying28 hi hz0 hz1 hz2 rfl (by decide) _ _ _ rfl ((HOA.out _).owns.alloc _) ⟨wx.heap.size, 0, none⟩ 1 1 [.int .i64 (y : Int)] rfl rfl (lit_one _ _ _) (one_one _) (by rw [HWL.out]; unfold maxLen; omega) (by rw [HWL.out]; omega) (by simp; omega) ?_)
            intro v4 w4 hown4 hgrow4 _
            have hb4 : Below (w.heap.size + 1) wx w4 := (((below_drewN (Below.refl _ _) _).alloc hzx _)).grown hgrow4 (by simp; omega) (fun j hj => (HOX.out.lt j hj).1)
            have HB4 : Hid (Below W1.heap.size W1 w4) := HBX.out.trans (by rw [HS1.out]; exact hb4)
            have HO4 : Hid (OwnRow 2 w4 (w.heap.size + 1) v4 (wayD (rowM L) (ringN (nearB L) (allS L.length) s) d u (i + 1))) := OwnRow.of_ownsRow (n := (wayD (rowM L) (ringN (nearB L) (allS L.length) s) d u i).length + 1) (by rw [HWS.out, HLE.out]; simpa using hown4) (by rw [wayD_len]; unfold maxLen; omega) (wayD_i64 (fun j hj => by have := HC16.out j (by omega); omega))
            obtain ⟨a5, c5, e5⟩ := HO4.out.row.slice
            rw [wayD_len] at e5
            subst e5
            clear hown4 hgrow4 hb4 hcq hfx' hfy
            go_wp2
            go_roundw
            case rel => exact ⟨i + 1, by omega, by rw [HLE.out], HO4.out, HB4.out⟩
            case measure => simp [lenV]; omega
          · have hit' : (ringN (nearB L) (allS L.length) s (d - 1 - i)).testBit y = false := by simpa using hit
            have hne : (dOf (nearB L) (allS L.length) s y == (r : Int) - 1) = false := by
              rw [beq_eq_false_iff_ne]
              intro e
              obtain ⟨k, hk⟩ := dOf_nonneg.1 (show 0 ≤ dOf (nearB L) (allS L.length) s y by omega)
              rw [dOf_at hk] at e
              have : k = d - 1 - i := by have := HR.out; omega
              subst this
              exact hit ((HRG.out _ y).2 hk)
            have HIT := Lib.hid hit'
            have hw1 : IntKind.i64.wrap ((r : Int) - 1) = (r : Int) - 1 := IntWalk.i64_in _ (by omega)
            obtain ⟨D, hD⟩ : ∃ D, D = dOf (nearB L) (allS L.length) s y := ⟨_, rfl⟩
            rw [← hD] at hfy hne
            clear hit hit' hy hdr hnot hst hfx hD
            go_wp2
            go_quiet (fail)
            go_wp2
            go_roundw
            case rel =>
              refine ⟨q + 1, by omega, rfl, by go_num, fun j hj => ?_, HDR.out.more _⟩
              rcases Nat.lt_succ_iff_lt_or_eq.1 hj with h' | rfl
              · exact HNOT.out j h'
              · rw [HY.out, Int.toNat_natCast]; exact HIT.out
            case measure => simp [intOf]; omega
        · exfalso
          have := hnot k0 (by omega)
          rw [HK0.out] at this
          cases this
    · obtain rfl : i = d := by omega
      have hr0 : r = 0 := by omega
      subst hr0
      have HF : Hid (GaveRow w (wayD (rowM L) (ringN (nearB L) (allS L.length) s) i u i) (.returned (.slice a3 (i + 1) c3)) wr) := ⟨_, _, _, rfl, HO.out.mono (by omega), HA.out.trans (HB.out.mono (by rw [HS1.out]; omega))⟩
      clear hb hst hx hr
      go_wp2
      go_ret
      exact HF.out

end Go.Proofs.YtnjkhiheapmlmaaDoor
