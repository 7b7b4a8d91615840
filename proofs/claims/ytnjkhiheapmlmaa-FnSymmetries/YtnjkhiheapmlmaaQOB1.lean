/- The texts OB1, OB2, OB3, joined. -/
import Derived.Test.YtnjkhiheapmlmaaQRB1
import Derived.Test.YtnjkhiheapmlmaaQM7
import Derived.Test.YtnjkhiheapmlmaaQCT1

/- Plain facts: the least vertex at a place in the lists by which a graph stands for itself. -/
namespace Go.Proofs.Ytnjkhiheapmlmaa

/-- The least at the place v in the lists, v itself among them. -/
def minL (Z : List (List Int)) (v : Nat) : Int := Z.foldl (fun m z => min m (nth z v)) (v : Int)
theorem minL_snoc (Z : List (List Int)) (z : List Int) (v : Nat) : minL (Z ++ [z]) v = min (minL Z v) (nth z v) := by simp [minL, List.foldl_append]
theorem fold_min (v : Nat) : ∀ (Z : List (List Int)) (m : Int), Z.foldl (fun m z => min m (nth z v)) m ≤ m ∧ (∀ z ∈ Z, Z.foldl (fun m z => min m (nth z v)) m ≤ nth z v) ∧ (Z.foldl (fun m z => min m (nth z v)) m = m ∨ ∃ z ∈ Z, nth z v = Z.foldl (fun m z => min m (nth z v)) m) := by
  intro Z
  induction Z with
  | nil => intro m; simp
  | cons a t ih =>
    intro m
    obtain ⟨h1, h2, h3⟩ := ih (min m (nth a v))
    rw [List.foldl_cons]
    refine ⟨by omega, fun z hz => ?_, ?_⟩
    · rcases List.mem_cons.1 hz with rfl | h
      · omega
      · exact h2 z h
    · rcases h3 with e | ⟨z, hz, e⟩
      · rw [e]
        by_cases hle : m ≤ nth a v
        · left; omega
        · right; exact ⟨a, by simp, by omega⟩
      · exact .inr ⟨z, by simp [hz], e⟩
theorem minL_le (Z : List (List Int)) (v : Nat) : minL Z v ≤ (v : Int) := (fold_min v Z v).1
theorem minL_le_mem {Z : List (List Int)} {v : Nat} {z : List Int} (hz : z ∈ Z) : minL Z v ≤ nth z v := (fold_min v Z v).2.1 z hz
theorem minL_is (Z : List (List Int)) (v : Nat) : minL Z v = (v : Int) ∨ ∃ z ∈ Z, nth z v = minL Z v := (fold_min v Z v).2.2

/-- v first, then the others. -/
def ordL (n v : Nat) : List Int := (v : Int) :: wo (allL n) (v : Int)
theorem allL_nodup (n : Nat) : (allL n).Nodup := (allL_pair n).imp (fun h => by omega)
theorem wo_count : ∀ (l : List Int) (x : Int), l.Nodup → x ∈ l → (wo l x).length + 1 = l.length := by
  intro l
  induction l with
  | nil => intro x _ h; simp at h
  | cons a t ih =>
    intro x hn hx
    obtain ⟨h1, h2⟩ := List.nodup_cons.1 hn
    by_cases e : a = x
    · subst e
      have : wo t a = t := by
        unfold wo
        rw [List.filter_eq_self]
        intro y hy
        have : y ≠ a := fun e => h1 (e ▸ hy)
        simpa using this
      have h3 : wo (a :: t) a = wo t a := by unfold wo; rw [List.filter_cons_of_neg (by simp)]
      rw [h3, this]; rfl
    · have hx' : x ∈ t := by rcases List.mem_cons.1 hx with h | h; exact absurd h.symm e; exact h
      have h3 : wo (a :: t) x = a :: wo t x := by unfold wo; rw [List.filter_cons_of_pos (by simpa using e)]
      have := ih x h2 hx'
      rw [h3]
      simp only [List.length_cons]
      omega
theorem ordL_len {n v : Nat} (hv : v < n) : (ordL n v).length = n := by
  have := wo_count (allL n) (v : Int) (allL_nodup n) ((allL_mem n v).2 ⟨v, hv, rfl⟩)
  rw [allL_len] at this
  unfold ordL
  rw [List.length_cons]
  omega
theorem ordL_nodup (n v : Nat) : (ordL n v).Nodup := by
  unfold ordL
  rw [List.nodup_cons]
  refine ⟨fun h => ((wo_mem _ _ _).1 h).2 rfl, ?_⟩
  unfold wo
  exact (allL_nodup n).filter _
theorem ordL_mem {n v : Nat} (hv : v < n) {x : Int} (h : x ∈ ordL n v) : 0 ≤ x ∧ x < (n : Int) := by
  rcases List.mem_cons.1 h with rfl | h
  · omega
  · obtain ⟨i, h1, rfl⟩ := (allL_mem n x).1 ((wo_mem _ _ _).1 h).1
    omega
theorem ordL_perm {n v : Nat} (hv : v < n) : PermP (ordL n v) n := by
  have hl := ordL_len hv
  refine ⟨hl, fun i hi => ?_, fun i j hij hj => ?_⟩
  · rw [nth_eq (by omega)]; exact ordL_mem hv (List.getElem_mem _)
  · rw [nth_eq (by omega), nth_eq (by omega)]
    have := List.pairwise_iff_getElem.1 (List.nodup_iff_pairwise_ne.1 (ordL_nodup n v)) i j (by omega) (by omega) hij
    exact this
theorem back_of {xs : List Int} {n : Nat} (h : PermP xs n) : ∃ ys, BackP xs ys n n := by
  have : ∀ k, k ≤ n → ∃ ys, BackP xs ys n k := by
    intro k
    induction k with
    | zero => intro _; exact ⟨List.replicate n 0, by simp, fun i hi => absurd hi (by omega)⟩
    | succ k ih =>
      intro hk
      obtain ⟨ys, hy⟩ := ih (by omega)
      exact ⟨_, hy.step h (by omega)⟩
  exact this n (Nat.le_refl _)
/-- A list read through an order. -/
theorem comp_fits {P P' A : Nat → Nat → Bool} {n : Nat} (hn : n ≤ 16) (hP : ∀ a b, P a b = P b a) (hA : ∀ a b, A a b = A b a) {s z : List Int} (hs : PermP s n) (hPP : ∀ i j, i < n → j < n → P' i j = P (nth s i).toNat (nth s j).toNat)
    (hz : z ∈ fitsL P n n A) : (List.range n).map (fun i => nth z (nth s i).toNat) ∈ fitsL P' n n A := by
  rw [fits_mem hn] at hz ⊢
  obtain ⟨hl, hz⟩ := hz
  have hnth : ∀ i, i < n → nth ((List.range n).map (fun i => nth z (nth s i).toNat)) i = nth z (nth s i).toNat := fun i hi => by
    rw [nth_eq (by simpa using hi)]; simp
  refine ⟨by simp, fun i hi => ?_⟩
  have hsi := hs.2.1 i hi
  rw [hnth i hi]
  refine ⟨(hz _ (by omega)).1, (hz _ (by omega)).2.1, fun j hj => ?_, fun j hj => ?_⟩
  · rw [hnth j (by omega)]
    have hsj := hs.2.1 j (by omega)
    have hne := hs.2.2 j i hj hi
    rcases Nat.lt_trichotomy (nth s j).toNat (nth s i).toNat with h | h | h
    · exact (hz _ (by omega)).2.2.1 _ h
    · omega
    · exact fun e => (hz _ (by omega)).2.2.1 _ h e.symm
  · rw [hnth j (by omega)]
    have hsj := hs.2.1 j (by omega)
    have hne := hs.2.2 j i hj hi
    rw [hPP j i (by omega) hi]
    rcases Nat.lt_trichotomy (nth s j).toNat (nth s i).toNat with h | h | h
    · exact (hz _ (by omega)).2.2.2 _ h
    · omega
    · rw [hP, hA]; exact (hz _ (by omega)).2.2.2 _ h

/-- The renamed graph that stands for the question whether u can stand at v. -/
def turnL (L : List (List Int)) (v : Nat) : List (List Int) := adjL (ordL L.length v).length (pickA L (ordL L.length v))
/-- Some list has u at the place v. -/
def MovesP (L : List (List Int)) (u v : Nat) : Prop := ∃ z ∈ stands L L, nth z v = (u : Int)
theorem moves_iff {L : List (List Int)} (hG : GraphP L) {u v : Nat} (hu : u < L.length) (hv : v < L.length) : enumL (nextN (adjB (turnL L v)) L.length (adjB L)) (L.length - 1) [(u : Int)] ≠ [] ↔ MovesP L u v := by
  have hz := hG.1
  have ho := ordL_perm hv
  have h0 : nth (ordL L.length v) 0 = (v : Int) := rfl
  have hrs : ∀ a b, adjB (turnL L v) a b = adjB (turnL L v) b a := adjB_sym (ren_graph hG ho).1
  have hcv : ∀ ys, ys ∈ enumL (nextN (adjB (turnL L v)) L.length (adjB L)) (L.length - 1) [(u : Int)] ↔ ys ∈ fitsL (adjB (turnL L v)) L.length L.length (adjB L) ∧ nth ys 0 = (u : Int) := by
    intro ys
    unfold fitsL
    rw [enum_mem, enum_mem]
    simp only [List.length_singleton, List.length_nil, List.take_zero, Nat.zero_add, true_and, Nat.zero_le, forall_const]
    constructor
    · rintro ⟨h1, h2, h3⟩
      have hn0 : nth ys 0 = (u : Int) := by
        rw [← nth_take (xs := ys) (show 0 < 1 by omega), h1]; rfl
      refine ⟨⟨by omega, fun i hi => ?_⟩, hn0⟩
      by_cases e : i = 0
      · subst e
        rw [hn0, List.take_zero]
        refine (listM_mem _ _).2 ⟨u, by omega, ?_, rfl⟩
        unfold nextN
        rw [roomN_bit hz.2]
        exact ⟨hu, rfl, fun j hj => absurd hj (by simp)⟩
      · exact h3 i (by omega) (by omega)
    · rintro ⟨⟨h1, h2⟩, h3⟩
      refine ⟨?_, by omega, fun i _ hi => h2 i (by omega)⟩
      rw [take_more (n := 0) (by omega), h3]; rfl
  constructor
  · intro hne
    obtain ⟨ys, hys⟩ := List.exists_mem_of_ne_nil _ hne
    obtain ⟨hf, hy0⟩ := (hcv ys).1 hys
    obtain ⟨bk, hb⟩ := back_of ho
    have hbp := hb.perm ho
    have := comp_fits hz.2 hrs (adjB_sym hG) hbp (P' := adjB L) (fun i j hi hj => by
      have a := hbp.2.1 i hi
      have b := hbp.2.1 j hj
      show _ = adjB (adjL _ _) _ _
      rw [ren_near hG ho (by omega) (by omega), hb.there ho hi, hb.there ho hj, Int.toNat_natCast, Int.toNat_natCast]) hf
    refine ⟨_, this, ?_⟩
    have hbv : nth bk v = 0 := by
      have := hb.2 0 (by omega)
      rw [h0, Int.toNat_natCast] at this
      exact this
    rw [nth_eq (by simpa using hv)]
    simp only [List.getElem_map, List.getElem_range]
    rw [hbv]
    exact hy0
  · rintro ⟨z, hzz, hv0⟩ e
    have := comp_fits hz.2 (adjB_sym hG) (adjB_sym hG) ho (P' := adjB (turnL L v)) (fun i j hi hj => ren_near hG ho hi hj) hzz
    have hm := (hcv _).2 ⟨this, by
      rw [nth_eq (by simp; omega)]
      simp only [List.getElem_map, List.getElem_range]
      rw [h0, Int.toNat_natCast]
      exact hv0⟩
    rw [e] at hm
    simp at hm
theorem all_stands {L : List (List Int)} (hG : GraphP L) : allL L.length ∈ stands L L := by
  have hz := hG.1
  unfold stands
  rw [fits_mem hz.2]
  have hn : ∀ i, i < L.length → nth (allL L.length) i = (i : Int) := fun i hi => by rw [nth_eq (by rw [allL_len]; exact hi)]; simp [allL]
  refine ⟨allL_len _, fun i hi => ?_⟩
  rw [hn i hi]
  refine ⟨by omega, by omega, fun j hj => by rw [hn j (by omega)]; omega, fun j hj => by rw [hn j (by omega)]; rfl⟩
theorem stands_in {L : List (List Int)} (hG : GraphP L) {z : List Int} (h : z ∈ stands L L) {i : Nat} (hi : i < L.length) : 0 ≤ nth z i ∧ nth z i < (L.length : Int) := by
  unfold stands at h
  rw [fits_mem hG.1.2] at h
  exact ⟨(h.2 i hi).1, (h.2 i hi).2.1⟩
/-- The least vertex that can stand at v. -/
def orbN (L : List (List Int)) (v : Nat) : Nat := (minL (stands L L) v).toNat
theorem orbN_le (L : List (List Int)) (v : Nat) : orbN L v ≤ v := by have := minL_le (stands L L) v; unfold orbN; omega
theorem orbN_eq {L : List (List Int)} (hG : GraphP L) {v : Nat} (hv : v < L.length) : ((orbN L v : Nat) : Int) = minL (stands L L) v := by
  unfold orbN
  rcases minL_is (stands L L) v with e | ⟨z, hz, e⟩
  · omega
  · have := (stands_in hG hz hv).1; omega
theorem orbN_moves {L : List (List Int)} (hG : GraphP L) {v : Nat} (hv : v < L.length) : MovesP L (orbN L v) v := by
  rcases minL_is (stands L L) v with e | ⟨z, hz, e⟩
  · refine ⟨_, all_stands hG, ?_⟩
    rw [orbN_eq hG hv, e, nth_eq (by rw [allL_len]; exact hv)]; simp [allL]
  · exact ⟨z, hz, by rw [orbN_eq hG hv]; exact e⟩
theorem orbN_least {L : List (List Int)} (hG : GraphP L) {u v : Nat} (hv : v < L.length) (h : MovesP L u v) : orbN L v ≤ u := by
  obtain ⟨z, hz, e⟩ := h
  have := minL_le_mem (v := v) hz
  have := orbN_eq hG hv
  omega
/-- What OrbitsOf answers. -/
def orbL (L : List (List Int)) : List Int := if SmallP L then (List.range L.length).map (fun v => minL (stands L L) v) else []
theorem orbL_small (L : List (List Int)) : (orbL L).length ≤ 1048576 := by
  unfold orbL
  split
  · rename_i h; have := h.2; simp; omega
  · simp

end Go.Proofs.Ytnjkhiheapmlmaa

/- Walks: the model's question whether u can stand at v. -/
namespace Go.Proofs.Ytnjkhiheapmlmaa
open Go.RowKit

theorem one_own (w : World) (B : Nat) (x : Int) (hB : B ≤ w.heap.size) (hx : I64 x) : OwnRow 2 (w.alloc (.cells #[.int .i64 x] 2)) B (.slice (some ⟨w.heap.size, 0, none⟩) 1 1) [x] :=
  OwnRow.of_ownsRow (n := 1) (xs := [x]) (World.ownsRow_lit w #[.int .i64 x] 1 hB (by unfold maxLen; omega) rfl) (by simp; unfold maxLen; omega) (fun y hy => by simp at hy; subst hy; exact hx)
/-- Can u stand at v? -/
def movesB (L : List (List Int)) (u v : Nat) : Bool := !(enumL (nextN (adjB (turnL L v)) L.length (adjB L)) (L.length - 1) [(u : Int)]).isEmpty
theorem movesB_iff {L : List (List Int)} (hG : GraphP L) {u v : Nat} (hu : u < L.length) (hv : v < L.length) : movesB L u v = true ↔ MovesP L u v := by
  rw [← moves_iff hG hu hv]
  unfold movesB
  simp
theorem moves_len (L : List (List Int)) (u v : Nat) : decide ((0 : Int) < ((firstL (enumL (nextN (adjB (turnL L v)) L.length (adjB L)) (L.length - 1) [(u : Int)])).length : Int)) = movesB L u v := by
  unfold movesB
  have hall : ∀ y, y ∈ enumL (nextN (adjB (turnL L v)) L.length (adjB L)) (L.length - 1) [(u : Int)] → 0 < y.length := fun y hy => by have := enum_len hy; simp at this; omega
  obtain ⟨Z, hZ⟩ : ∃ Z, enumL (nextN (adjB (turnL L v)) L.length (adjB L)) (L.length - 1) [(u : Int)] = Z := ⟨_, rfl⟩
  rw [hZ] at hall ⊢
  cases Z with
  | nil => rfl
  | cons a t =>
    have := hall a (by simp)
    rw [decide_eq_true (by show (0 : Int) < (a.length : Int); omega)]
    rfl

set_option maxHeartbeats 4000000 in
set_option maxRecDepth 100000 in
theorem l4Moves_any (L : List (List Int)) (hG : GraphP L) (a0 : Option Addr) (c0 u v : Nat) (hu : u < L.length) (hv : v < L.length) (w : World) (h : GridAt w (.slice a0 L.length c0) L) :
    Calls Try.prog 85 #[.agg #[.slice a0 L.length c0], .int .i64 (u : Int), .int .i64 (v : Int)] w fun e w' => e = .returned (.bool (movesB L u v)) ∧ Below w.heap.size w w' := by
  obtain ⟨i0, hi, hz0, hz1, hz2⟩ := info_parts Try.infoI
  have hz := hG.1
  have ha : Below w.heap.size w (w.alloc (.cells #[.slice a0 L.length c0] 29)) := (Below.refl _ _).alloc (Nat.le_refl _) _
  have kg0 : (w.alloc (.cells #[.slice a0 L.length c0] 29)).cell? ⟨w.heap.size, 0, none⟩ = some (.slice a0 L.length c0) := by go_simp
  obtain ⟨w0, hw0⟩ : ∃ w0, w.alloc (.cells #[.slice a0 L.length c0] 29) = w0 := ⟨_, rfl⟩
  rw [hw0] at ha kg0
  have HW0 := Lib.hid hw0
  have HA := Lib.hid ha
  have hzw : w.heap.size ≤ w0.heap.size := ha.size
  have KG : Hid (∀ w', Below w0.heap.size w0 w' → w'.cell? ⟨w.heap.size, 0, none⟩ = some (.slice a0 L.length c0)) := fun w' hb => cell_keep hb kg0
  have GK : Hid (∀ w', Below w0.heap.size w0 w' → GridAt w' (.slice a0 L.length c0) L) := fun w' hb => (h.keep ha).keep hb
  have hs0 : w0.heap.size = w.heap.size + 1 := by rw [← HW0.out]; simp
  have HO0 : Hid (OwnRow 2 (w0.alloc (.cells #[.int .i64 (v : Int)] 2)) w0.heap.size (.slice (some ⟨w.heap.size + 1, 0, none⟩) 1 1) [(v : Int)]) := by
    have := one_own w0 w0.heap.size (v : Int) (Nat.le_refl _) (by unfold I64; omega)
    show OwnRow _ _ _ _ _
    rw [← hs0]; exact this
  clear hs0
  have HB0 : Hid (Below w0.heap.size w0 (w0.alloc (.cells #[.int .i64 (v : Int)] 2))) := (Below.refl _ _).alloc (Nat.le_refl _) _
  have kg1 := KG.out _ HB0.out
  have HGP := Lib.hid hG
  have HOP := Lib.hid (ordL_perm hv)
  clear h hw0 ha kg0 hG
  go_enter Try.func85, Try.ntmps85
  go_wp2_with fail
  rw [HW0.out]
  refine (l1Size_any _ L _ (GK.out _ HB0.out)).mono ?_
  rintro e w1 ⟨rfl, hb1⟩
  have HB1 : Hid (Below w0.heap.size w0 w1) := HB0.out.trans (hb1.mono HB0.out.size)
  have HO1 := Lib.hid (HO0.out.keep hb1)
  clear hb1 kg1 HB0 HO0
  go_wp2_with fail
  refine (l1All_any L.length _ hz.2).mono ?_
  rintro e w2 ⟨n2, a2, c2, rfl, ho2, hb2⟩
  have HB2 : Hid (Below w0.heap.size w0 w2) := HB1.out.trans (hb2.mono HB1.out.size)
  have HO2 := Lib.hid (HO1.out.keep hb2)
  have HR2 := Lib.hid ho2.row
  clear hb2 ho2 HB1 HO1
  go_wp2_with fail
  refine (l2Without_any _ (allL L.length) (v : Int) _ HR2.out (by rw [allL_len]; omega)).mono ?_
  rintro e w3 ⟨n3, a3, c3, rfl, ho3, hb3⟩
  have HB3 : Hid (Below w0.heap.size w0 w3) := HB2.out.trans (hb3.mono HB2.out.size)
  have HO3 := Lib.hid (HO2.out.keep hb3)
  have hol : (ordL L.length v).length = L.length := ordL_len hv
  have hwl : (wo (allL L.length) (v : Int)).length + 1 = L.length := by have := hol; unfold ordL at this; rw [List.length_cons] at this; exact this
  have HI64 : Hid (∀ x ∈ ordL L.length v, I64 x) := perm_i64 HOP.out hz.2
  have HN3 := Lib.hid ho3
  clear hb3 HB2 HO2 HR2
  have hs3 : w0.heap.size ≤ w3.heap.size := HB3.out.size
  obtain ⟨hi3, hl3, hc3⟩ := ho3
  rcases hc3 with ⟨e3, hnil⟩ | ⟨g3, cap3, cur3, e3, hg3, hh3, hle3, hcap3, hcs3, hcur3⟩
  · obtain ⟨rfl, rfl, rfl⟩ : a3 = none ∧ n3 = 0 ∧ c3 = 0 := by simpa using e3
    have HO7 : Hid (OwnRow 2 w3 w0.heap.size (.slice (some ⟨w.heap.size + 1, 0, none⟩) 1 1) (ordL L.length v)) := by
      show OwnRow _ _ _ _ (_ :: _); rw [hnil]; exact HO3.out
    have HB7 := HB3
    clear hi3 hl3 e3 hnil HN3 HI64 HB3
    have HOL := Lib.hid hol
    clear hol hwl
    go_wp2_with (at_builtin; refine wpList_append_own_none rfl (.tmp 9) (.tmp 14) 31 rfl w0.heap.size 2 i0 1 Try.underlying31 hi _ _ _ rfl HO3.out.owns rfl ?_)
    have hol := HOL.out
    rename World => w7
    clear HO3
    have hs7 : w0.heap.size ≤ w7.heap.size := HB7.out.size
    have KS : Hid (∀ w', Below w7.heap.size w7 w' → w'.cell? ⟨w.heap.size, 0, none⟩ = some (.slice a0 L.length c0)) := fun w' hb => KG.out _ (HB7.out.trans (hb.mono hs7))
    obtain ⟨T, hT⟩ : ∃ T, turnL L v = T := ⟨_, rfl⟩
    obtain ⟨M, hM⟩ : ∃ M, (firstL (enumL (nextN (adjB T) L.length (adjB L)) (L.length - 1) [(u : Int)])).length = M := ⟨_, rfl⟩
    have HMB : Hid (decide (0 < M) = movesB L u v) := by show _ = _; rw [← hM, ← hT, ← moves_len L u v, decide_eq_decide]; omega
    have hTG : GraphP T := by rw [← hT]; exact (ren_graph HGP.out HOP.out).1
    have hTL : T.length = L.length := by rw [← hT]; exact (ren_graph HGP.out HOP.out).2
    have HL2 : Hid (∀ v7, OwnRow 2 w7 w0.heap.size v7 (ordL L.length v) → ∀ w5, Below w7.heap.size w7 w5 → Calls Try.prog 79 #[.agg #[.slice a0 L.length c0], v7] w5 fun e w' => ∃ a c, e = .returned (.agg #[.slice a T.length c]) ∧ GridAt w' (.slice a T.length c) T ∧ Below w5.heap.size w5 w') := fun v7 ho w5 hb => by
      have hin : InP L (ordL L.length v) := fun i hi => HOP.out.2.1 i (by omega)
      refine (l2Of_any _ _ L (ordL L.length v) (pickA L (ordL L.length v)) _ (GK.out _ (HB7.out.trans (hb.mono hs7))) (ho.keep hb).row (by omega) (by omega) hin (pickA_spec HGP.out hin) (pickA_sym HGP.out _) (pickA_self HGP.out _) (fun i j => pickA_range)).mono ?_
      rintro e w' ⟨n, a, c, rfl, hog, hbb⟩
      have hgr : GridAt w' (.slice a n c) T := by rw [← hT]; exact hog.grid
      obtain ⟨a', c', e'⟩ := hgr.slice
      obtain ⟨rfl, rfl, rfl⟩ : a = a' ∧ n = T.length ∧ c = c' := by simpa using e'
      exact ⟨a, c, rfl, hgr, hbb⟩
    have HEM : Hid (∀ (a5 : Option Addr) (c5 : Nat) (s : Value) (w6 : World), Below w7.heap.size w7 w6 → GridAt w6 (.slice a5 T.length c5) T → OwnRow 2 w6 w.heap.size s [(u : Int)] → Calls Try.prog 77 #[.agg #[.slice a5 T.length c5], .agg #[.slice a0 L.length c0], s] w6 fun e w' => ∃ a c, e = .returned (.slice a M c) ∧ Below w6.heap.size w6 w') := fun a5 c5 s w6 hb hg ho => by
      have hbb := HB7.out.trans (hb.mono hs7)
      refine (l4Embed_any T L hTG HGP.out a5 a0 c5 c0 (L.length - 1) [(u : Int)] s w.heap.size w6 hg (GK.out _ hbb) ho (by have := hbb.size; omega) (by simp; omega) (fun i hi => ?_)).mono ?_
      · simp at hi; subst hi; show 0 ≤ (u : Int) ∧ (u : Int) < _; omega
      · rintro e w' ⟨m, a, c, rfl, ho', hb'⟩
        obtain ⟨a', c', e'⟩ := ho'.row.slice
        obtain ⟨rfl, rfl, rfl⟩ : a = a' ∧ m = _ ∧ c = c' := by simpa using e'
        exact ⟨a, c, by rw [hM], hb'⟩
    have HU : Hid (I64 (u : Int)) := by show I64 _; unfold I64; omega
    have HEA : Hid (∀ (a5 : Option Addr) (c5 : Nat) (w5 : World), Below w7.heap.size w7 w5 → GridAt w5 (.slice a5 T.length c5) T → Calls Try.prog 77 #[.agg #[.slice a5 T.length c5], .agg #[.slice a0 L.length c0], .slice (some ⟨w5.heap.size, 0, none⟩) 1 1] (w5.alloc (.cells #[.int .i64 (u : Int)] 2)) fun e w' => ∃ a c, e = .returned (.slice a M c) ∧ Below w7.heap.size w7 w') := fun a5 c5 w5 hb hg => by
      have hba := hb.alloc hb.size (.cells #[.int .i64 (u : Int)] 2)
      refine (HEM.out a5 c5 _ _ hba (hg.keep ((Below.refl _ _).alloc (Nat.le_refl _) _)) (one_own w5 w.heap.size (u : Int) (Nat.le_trans (Nat.le_trans hzw hs7) hb.size) HU.out)).mono ?_
      rintro e w' ⟨a, c, he, hb'⟩
      exact ⟨a, c, he, hba.trans (hb'.mono hba.size)⟩
    have HEB : Hid (∀ (a5 : Option Addr) (c5 : Nat) (w5 : World), Below (w7.alloc (.cells #[.int .i64 (u : Int)] 2)).heap.size (w7.alloc (.cells #[.int .i64 (u : Int)] 2)) w5 → GridAt w5 (.slice a5 T.length c5) T → Calls Try.prog 77 #[.agg #[.slice a5 T.length c5], .agg #[.slice a0 L.length c0], .slice (some ⟨w7.heap.size, 0, none⟩) 1 1] w5 fun e w' => ∃ a c, e = .returned (.slice a M c) ∧ Below w7.heap.size w7 w') := fun a5 c5 w5 hb hg => by
      have hba : Below w7.heap.size w7 w5 := ((Below.refl _ _).alloc (Nat.le_refl _) (.cells #[.int .i64 (u : Int)] 2)).trans (hb.mono (by rw [size_alloc1]; exact Nat.le_succ _))
      refine (HEM.out a5 c5 _ _ hba hg ((one_own w7 w.heap.size (u : Int) (Nat.le_trans hzw hs7) HU.out).keep hb)).mono ?_
      rintro e w' ⟨a, c, he, hb'⟩
      exact ⟨a, c, he, hba.trans (hb'.mono hba.size)⟩
    have HL2A : Hid (∀ v7, OwnRow 2 w7 w0.heap.size v7 (ordL L.length v) → Calls Try.prog 79 #[.agg #[.slice a0 L.length c0], v7] w7.drew fun e w' => ∃ a c, e = .returned (.agg #[.slice a T.length c]) ∧ GridAt w' (.slice a T.length c) T ∧ Below w7.heap.size w7 w') := fun v7 ho =>
      (HL2.out v7 ho _ (Below.refl _ _).drew).mono fun e w' ⟨a, c, h1, h2, h3⟩ => ⟨a, c, h1, h2, (Below.refl _ _).drew.trans h3⟩
    have HL2B : Hid (∀ v7, OwnRow 2 w7 w0.heap.size v7 (ordL L.length v) → Calls Try.prog 79 #[.agg #[.slice a0 L.length c0], v7] (w7.alloc (.cells #[.int .i64 (u : Int)] 2)).drew fun e w' => ∃ a c, e = .returned (.agg #[.slice a T.length c]) ∧ GridAt w' (.slice a T.length c) T ∧ Below (w7.alloc (.cells #[.int .i64 (u : Int)] 2)).heap.size (w7.alloc (.cells #[.int .i64 (u : Int)] 2)) w') := fun v7 ho =>
      (HL2.out v7 ho _ ((Below.refl _ _).alloc (Nat.le_refl _) _).drew).mono fun e w' ⟨a, c, h1, h2, h3⟩ => ⟨a, c, h1, h2, (Below.refl _ _).drew.trans h3⟩
    have KSB : Hid (∀ w', Below (w7.alloc (.cells #[.int .i64 (u : Int)] 2)).heap.size (w7.alloc (.cells #[.int .i64 (u : Int)] 2)) w' → w'.cell? ⟨w.heap.size, 0, none⟩ = some (.slice a0 L.length c0)) := fun w' hb => KS.out _ (((Below.refl _ _).alloc (Nat.le_refl _) (.cells #[.int .i64 (u : Int)] 2)).trans (hb.mono (by rw [size_alloc1]; exact Nat.le_succ _)))
    clear hT hM hTG hTL hol HOP hz hu hv HL2 HEM HU
    have ks := KS.out _ (Below.refl _ _)
    go_wp2_with fail
    go_region_held3 (fun wy => wy.cell? ⟨w.heap.size, 0, none⟩ = some (.slice a0 L.length c0)) (first | with_reducible exact ks | with_reducible exact KS.out _ (Below.refl _ _).drew | with_reducible exact KSB.out _ (Below.refl _ _).drew | with_reducible exact KS.out _ HB5.out | with_reducible exact KSB.out _ HB5.out | with_reducible exact KS.out _ (HB5.out.alloc HB5.out.size _) | with_reducible exact KS.out _ HB6.out)
      (first
        | (go_at_call 79; with_reducible refine (HL2A.out _ HO7.out).mono ?_; rintro e w5 ⟨a5, c5, rfl, hg5, hb5⟩; have HG5 := Lib.hid hg5; have HB5 := Lib.hid hb5; clear hg5 hb5)
        | (go_at_call 79; with_reducible refine (HL2B.out _ HO7.out).mono ?_; rintro e w5 ⟨a5, c5, rfl, hg5, hb5⟩; have HG5 := Lib.hid hg5; have HB5 := Lib.hid hb5; clear hg5 hb5)
        | (go_at_call 77; with_reducible refine (HEA.out _ _ _ HB5.out HG5.out).mono ?_; rintro e w6 ⟨a6, c6, rfl, hb6⟩; have HB6 := Lib.hid hb6; clear hb6)
        | (go_at_call 77; with_reducible refine (HEB.out _ _ _ HB5.out HG5.out).mono ?_; rintro e w6 ⟨a6, c6, rfl, hb6⟩; have HB6 := Lib.hid hb6; clear hb6))
    all_goals (
      have HF : Hid (Below w.heap.size w w6) := HA.out.trans ((HB7.out.trans (HB6.out.mono hs7)).mono hzw)
      go_wp2
      go_ret
      exact ⟨by rw [← HMB.out]; rfl, HF.out⟩)
  · obtain ⟨rfl, rfl, rfl⟩ : a3 = some ⟨g3, 0, none⟩ ∧ n3 = (wo (allL L.length) (v : Int)).length ∧ c3 = cap3 := by simpa using e3
    have hnw : Hid (∀ i, i < (wo (allL L.length) (v : Int)).length → w3.cell? ⟨g3, 0 + i, none⟩ = some (.int .i64 (nth (wo (allL L.length) (v : Int)) i))) := fun i hi => by
      have := hcur3 i hi
      rw [Nat.zero_add]
      simp only [World.cell?, hh3, Option.bind_some]
      exact this
    obtain ⟨m3, hm3⟩ : ∃ m3, (wo (allL L.length) (v : Int)).length = m3 := ⟨_, rfl⟩
    have HNW := Lib.hid (row_news hnw.out)
    have HM3 := Lib.hid hm3
    rw [hm3] at hwl ⊢
    have hw16 : m3 ≤ 16 := by omega
    have HWL := Lib.hid hwl
    have HOL := Lib.hid hol
    clear hi3 hl3 e3 hg3 hh3 hle3 hcap3 hcs3 hcur3 hnw hm3 HN3 hwl hol
    go_wp2_with (at_builtin; refine wpList_append_own _ rfl (.tmp 9) (.tmp 14) 31 rfl w0.heap.size 2 i0 (.int .i64 0) 1 8 Try.underlying31 hi hz0 hz1 hz2 rfl (by decide) _ _ _ rfl HO3.out.owns ⟨g3, 0, none⟩ m3 _ ((wo (allL L.length) (v : Int)).map (Value.int .i64)) rfl ?d0 ?d1 (ints_one _) ?d3 ?d4 ?d5 ?_)
    case d0 => rw [List.length_map, HM3.out, Nat.mul_one]
    case d1 => exact HNW.out
    case d3 => simp; unfold maxLen; omega
    case d4 => simp; omega
    case d5 => omega
    intro v7 w7 hown7 hgrow7 _
    have hro : OwnRow 2 w7 w0.heap.size v7 (ordL L.length v) := OwnRow.of_ownsRow (n := 1 + m3) (by simpa [ordL] using hown7) (by rw [HOL.out]; unfold maxLen; omega) HI64.out
    have HB7 : Hid (Below w0.heap.size w0 w7) := HB3.out.grown hgrow7 hs3 (fun j hj => (HO3.out.lt j hj).1)
    obtain ⟨a7, c7, rfl⟩ := hro.row.slice
    have HO7 := Lib.hid hro
    clear hro hown7 hgrow7 HNW HM3 HB3 HI64
    have hwl := HWL.out
    have hol := HOL.out
    rename World => w7
    clear HO3
    have hs7 : w0.heap.size ≤ w7.heap.size := HB7.out.size
    have KS : Hid (∀ w', Below w7.heap.size w7 w' → w'.cell? ⟨w.heap.size, 0, none⟩ = some (.slice a0 L.length c0)) := fun w' hb => KG.out _ (HB7.out.trans (hb.mono hs7))
    obtain ⟨T, hT⟩ : ∃ T, turnL L v = T := ⟨_, rfl⟩
    obtain ⟨M, hM⟩ : ∃ M, (firstL (enumL (nextN (adjB T) L.length (adjB L)) (L.length - 1) [(u : Int)])).length = M := ⟨_, rfl⟩
    have HMB : Hid (decide (0 < M) = movesB L u v) := by show _ = _; rw [← hM, ← hT, ← moves_len L u v, decide_eq_decide]; omega
    have hTG : GraphP T := by rw [← hT]; exact (ren_graph HGP.out HOP.out).1
    have hTL : T.length = L.length := by rw [← hT]; exact (ren_graph HGP.out HOP.out).2
    have HL2 : Hid (∀ v7, OwnRow 2 w7 w0.heap.size v7 (ordL L.length v) → ∀ w5, Below w7.heap.size w7 w5 → Calls Try.prog 79 #[.agg #[.slice a0 L.length c0], v7] w5 fun e w' => ∃ a c, e = .returned (.agg #[.slice a T.length c]) ∧ GridAt w' (.slice a T.length c) T ∧ Below w5.heap.size w5 w') := fun v7 ho w5 hb => by
      have hin : InP L (ordL L.length v) := fun i hi => HOP.out.2.1 i (by omega)
      refine (l2Of_any _ _ L (ordL L.length v) (pickA L (ordL L.length v)) _ (GK.out _ (HB7.out.trans (hb.mono hs7))) (ho.keep hb).row (by omega) (by omega) hin (pickA_spec HGP.out hin) (pickA_sym HGP.out _) (pickA_self HGP.out _) (fun i j => pickA_range)).mono ?_
      rintro e w' ⟨n, a, c, rfl, hog, hbb⟩
      have hgr : GridAt w' (.slice a n c) T := by rw [← hT]; exact hog.grid
      obtain ⟨a', c', e'⟩ := hgr.slice
      obtain ⟨rfl, rfl, rfl⟩ : a = a' ∧ n = T.length ∧ c = c' := by simpa using e'
      exact ⟨a, c, rfl, hgr, hbb⟩
    have HEM : Hid (∀ (a5 : Option Addr) (c5 : Nat) (s : Value) (w6 : World), Below w7.heap.size w7 w6 → GridAt w6 (.slice a5 T.length c5) T → OwnRow 2 w6 w.heap.size s [(u : Int)] → Calls Try.prog 77 #[.agg #[.slice a5 T.length c5], .agg #[.slice a0 L.length c0], s] w6 fun e w' => ∃ a c, e = .returned (.slice a M c) ∧ Below w6.heap.size w6 w') := fun a5 c5 s w6 hb hg ho => by
      have hbb := HB7.out.trans (hb.mono hs7)
      refine (l4Embed_any T L hTG HGP.out a5 a0 c5 c0 (L.length - 1) [(u : Int)] s w.heap.size w6 hg (GK.out _ hbb) ho (by have := hbb.size; omega) (by simp; omega) (fun i hi => ?_)).mono ?_
      · simp at hi; subst hi; show 0 ≤ (u : Int) ∧ (u : Int) < _; omega
      · rintro e w' ⟨m, a, c, rfl, ho', hb'⟩
        obtain ⟨a', c', e'⟩ := ho'.row.slice
        obtain ⟨rfl, rfl, rfl⟩ : a = a' ∧ m = _ ∧ c = c' := by simpa using e'
        exact ⟨a, c, by rw [hM], hb'⟩
    have HU : Hid (I64 (u : Int)) := by show I64 _; unfold I64; omega
    have HEA : Hid (∀ (a5 : Option Addr) (c5 : Nat) (w5 : World), Below w7.heap.size w7 w5 → GridAt w5 (.slice a5 T.length c5) T → Calls Try.prog 77 #[.agg #[.slice a5 T.length c5], .agg #[.slice a0 L.length c0], .slice (some ⟨w5.heap.size, 0, none⟩) 1 1] (w5.alloc (.cells #[.int .i64 (u : Int)] 2)) fun e w' => ∃ a c, e = .returned (.slice a M c) ∧ Below w7.heap.size w7 w') := fun a5 c5 w5 hb hg => by
      have hba := hb.alloc hb.size (.cells #[.int .i64 (u : Int)] 2)
      refine (HEM.out a5 c5 _ _ hba (hg.keep ((Below.refl _ _).alloc (Nat.le_refl _) _)) (one_own w5 w.heap.size (u : Int) (Nat.le_trans (Nat.le_trans hzw hs7) hb.size) HU.out)).mono ?_
      rintro e w' ⟨a, c, he, hb'⟩
      exact ⟨a, c, he, hba.trans (hb'.mono hba.size)⟩
    have HEB : Hid (∀ (a5 : Option Addr) (c5 : Nat) (w5 : World), Below (w7.alloc (.cells #[.int .i64 (u : Int)] 2)).heap.size (w7.alloc (.cells #[.int .i64 (u : Int)] 2)) w5 → GridAt w5 (.slice a5 T.length c5) T → Calls Try.prog 77 #[.agg #[.slice a5 T.length c5], .agg #[.slice a0 L.length c0], .slice (some ⟨w7.heap.size, 0, none⟩) 1 1] w5 fun e w' => ∃ a c, e = .returned (.slice a M c) ∧ Below w7.heap.size w7 w') := fun a5 c5 w5 hb hg => by
      have hba : Below w7.heap.size w7 w5 := ((Below.refl _ _).alloc (Nat.le_refl _) (.cells #[.int .i64 (u : Int)] 2)).trans (hb.mono (by rw [size_alloc1]; exact Nat.le_succ _))
      refine (HEM.out a5 c5 _ _ hba hg ((one_own w7 w.heap.size (u : Int) (Nat.le_trans hzw hs7) HU.out).keep hb)).mono ?_
      rintro e w' ⟨a, c, he, hb'⟩
      exact ⟨a, c, he, hba.trans (hb'.mono hba.size)⟩
    have HL2A : Hid (∀ v7, OwnRow 2 w7 w0.heap.size v7 (ordL L.length v) → Calls Try.prog 79 #[.agg #[.slice a0 L.length c0], v7] w7.drew fun e w' => ∃ a c, e = .returned (.agg #[.slice a T.length c]) ∧ GridAt w' (.slice a T.length c) T ∧ Below w7.heap.size w7 w') := fun v7 ho =>
      (HL2.out v7 ho _ (Below.refl _ _).drew).mono fun e w' ⟨a, c, h1, h2, h3⟩ => ⟨a, c, h1, h2, (Below.refl _ _).drew.trans h3⟩
    have HL2B : Hid (∀ v7, OwnRow 2 w7 w0.heap.size v7 (ordL L.length v) → Calls Try.prog 79 #[.agg #[.slice a0 L.length c0], v7] (w7.alloc (.cells #[.int .i64 (u : Int)] 2)).drew fun e w' => ∃ a c, e = .returned (.agg #[.slice a T.length c]) ∧ GridAt w' (.slice a T.length c) T ∧ Below (w7.alloc (.cells #[.int .i64 (u : Int)] 2)).heap.size (w7.alloc (.cells #[.int .i64 (u : Int)] 2)) w') := fun v7 ho =>
      (HL2.out v7 ho _ ((Below.refl _ _).alloc (Nat.le_refl _) _).drew).mono fun e w' ⟨a, c, h1, h2, h3⟩ => ⟨a, c, h1, h2, (Below.refl _ _).drew.trans h3⟩
    have KSB : Hid (∀ w', Below (w7.alloc (.cells #[.int .i64 (u : Int)] 2)).heap.size (w7.alloc (.cells #[.int .i64 (u : Int)] 2)) w' → w'.cell? ⟨w.heap.size, 0, none⟩ = some (.slice a0 L.length c0)) := fun w' hb => KS.out _ (((Below.refl _ _).alloc (Nat.le_refl _) (.cells #[.int .i64 (u : Int)] 2)).trans (hb.mono (by rw [size_alloc1]; exact Nat.le_succ _)))
    clear hT hM hTG hTL hol HOP hz hu hv HL2 HEM HU
    have ks := KS.out _ (Below.refl _ _)
    go_wp2_with fail
    go_region_held3 (fun wy => wy.cell? ⟨w.heap.size, 0, none⟩ = some (.slice a0 L.length c0)) (first | with_reducible exact ks | with_reducible exact KS.out _ (Below.refl _ _).drew | with_reducible exact KSB.out _ (Below.refl _ _).drew | with_reducible exact KS.out _ HB5.out | with_reducible exact KSB.out _ HB5.out | with_reducible exact KS.out _ (HB5.out.alloc HB5.out.size _) | with_reducible exact KS.out _ HB6.out)
      (first
        | (go_at_call 79; with_reducible refine (HL2A.out _ HO7.out).mono ?_; rintro e w5 ⟨a5, c5, rfl, hg5, hb5⟩; have HG5 := Lib.hid hg5; have HB5 := Lib.hid hb5; clear hg5 hb5)
        | (go_at_call 79; with_reducible refine (HL2B.out _ HO7.out).mono ?_; rintro e w5 ⟨a5, c5, rfl, hg5, hb5⟩; have HG5 := Lib.hid hg5; have HB5 := Lib.hid hb5; clear hg5 hb5)
        | (go_at_call 77; with_reducible refine (HEA.out _ _ _ HB5.out HG5.out).mono ?_; rintro e w6 ⟨a6, c6, rfl, hb6⟩; have HB6 := Lib.hid hb6; clear hb6)
        | (go_at_call 77; with_reducible refine (HEB.out _ _ _ HB5.out HG5.out).mono ?_; rintro e w6 ⟨a6, c6, rfl, hb6⟩; have HB6 := Lib.hid hb6; clear hb6))
    all_goals (
      have HF : Hid (Below w.heap.size w w6) := HA.out.trans ((HB7.out.trans (HB6.out.mono hs7)).mono hzw)
      go_wp2
      go_ret
      exact ⟨by rw [← HMB.out]; rfl, HF.out⟩)

end Go.Proofs.Ytnjkhiheapmlmaa

/- Walks: the model's orbits. -/
namespace Go.Proofs.Ytnjkhiheapmlmaa
open Go.RowKit

theorem orb_row {L : List (List Int)} (h : SmallP L) : (List.range L.length).map (fun v => minL (stands L L) v) = orbL L := by unfold orbL; rw [if_pos h]
theorem orb_i64 {L : List (List Int)} (h : SmallP L) {k : Nat} (hk : k ≤ L.length) : ∀ x ∈ (List.range k).map (fun v => minL (stands L L) v), I64 x := fun x hx => by
  obtain ⟨v, hv, rfl⟩ := List.mem_map.1 hx
  rw [List.mem_range] at hv
  have h1 := orbN_eq h.1 (v := v) (by omega)
  have h2 := orbN_le L v
  have h3 := h.2
  unfold I64
  omega

set_option maxHeartbeats 4000000 in
set_option maxRecDepth 100000 in
theorem specOrbitsOf_any (v : Value) (L : List (List Int)) (w : World) (h : GridAt w v L) : Calls Try.prog 36 #[.agg #[v]] w (GaveRow w (orbL L)) := by
  obtain ⟨i0, hi, hz0, hz1, hz2⟩ := info_parts Try.infoI
  have hlm := h.len
  unfold maxLen at hlm
  obtain ⟨a0, c0, rfl⟩ := h.slice
  have ha : Below w.heap.size w (w.alloc (.cells #[.slice a0 L.length c0] 29)) := (Below.refl _ _).alloc (Nat.le_refl _) _
  have kg0 : (w.alloc (.cells #[.slice a0 L.length c0] 29)).cell? ⟨w.heap.size, 0, none⟩ = some (.slice a0 L.length c0) := by go_simp
  obtain ⟨w0, hw0⟩ : ∃ w0, w.alloc (.cells #[.slice a0 L.length c0] 29) = w0 := ⟨_, rfl⟩
  rw [hw0] at ha kg0
  have HW0 := Lib.hid hw0
  have HA := Lib.hid ha
  have hzw : w.heap.size ≤ w0.heap.size := ha.size
  have KG : Hid (∀ w', Below w0.heap.size w0 w' → w'.cell? ⟨w.heap.size, 0, none⟩ = some (.slice a0 L.length c0)) := fun w' hb => cell_keep hb kg0
  have GK : Hid (∀ w', Below w0.heap.size w0 w' → GridAt w' (.slice a0 L.length c0) L) := fun w' hb => (h.keep ha).keep hb
  have hs0 : w0.heap.size = w.heap.size + 1 := by rw [← HW0.out]; simp
  have HO0 : Hid (OwnRow 2 (w0.alloc (.cells #[] 2)) w0.heap.size (.slice (some ⟨w.heap.size + 1, 0, none⟩) 0 0) []) := by
    have := empty_own w0 w0.heap.size (Nat.le_refl _)
    show OwnRow _ _ _ _ _
    rw [← hs0]; exact this
  have HB0 : Hid (Below w0.heap.size w0 (w0.alloc (.cells #[] 2))) := (Below.refl _ _).alloc (Nat.le_refl _) _
  clear h hw0 ha kg0 hs0
  go_enter Try.func36, Try.ntmps36
  go_wp2_with fail
  rw [HW0.out]
  go_loopw [3, 4] (fun s i wr => ∃ k : Nat, k ≤ L.length ∧ i = .int .i64 k ∧ OwnRow 2 wr w0.heap.size s ((List.range k).map (fun v => minL (stands L L) v)) ∧ Below w0.heap.size w0 wr ∧ (0 < k → SmallP L)) (fun _ i _ => L.length - (intOf i).toNat)
  case atStart => exact ⟨0, Nat.zero_le _, rfl, HO0.out, HB0.out, fun h => absurd h (by omega)⟩
  case round =>
    clear HO0 HB0
    obtain ⟨k, hk, rfl, ho, hb, hS⟩ := hrel
    have HO := Lib.hid ho
    have HB := Lib.hid hb
    have HS := Lib.hid hS
    have kg := KG.out _ hb
    clear ho hb hS
    go_wp2_with fail
    refine (l1Size_any _ L _ (GK.out _ HB.out)).mono ?_
    rintro e w1 ⟨rfl, hb1⟩
    have HB1 : Hid (Below w0.heap.size w0 w1) := HB.out.trans (hb1.mono HB.out.size)
    have HO1 := Lib.hid (HO.out.keep hb1)
    have kg1 := KG.out _ HB1.out
    clear hb1 HB HO kg
    by_cases hlt : k < L.length
    · have hltI : (k : Int) < (L.length : Int) := by omega
      go_wp2_with fail
      refine (l4Small_any _ L _ (GK.out _ HB1.out)).mono ?_
      rintro e w2 ⟨rfl, hb2⟩
      have HB2 : Hid (Below w0.heap.size w0 w2) := HB1.out.trans (hb2.mono HB1.out.size)
      have HO2 := Lib.hid (HO1.out.keep hb2)
      clear hb2 kg1 HB1 HO1
      by_cases hSm : SmallP L
      · rw [decide_eq_true hSm]
        have HSM := Lib.hid hSm
        have h8 := hSm.2
        have hok := orbN_le L k
        clear hSm
        go_wp2_with fail
        go_loopw [5] (fun i wx => ∃ u : Nat, u ≤ orbN L k ∧ i = .int .i64 u ∧ Below w0.heap.size w0 wx ∧ OwnRow 2 wx w0.heap.size u3 ((List.range k).map (fun v => minL (stands L L) v))) (fun i _ => orbN L k - (intOf i).toNat)
        case atStart => exact ⟨0, Nat.zero_le _, rfl, HB2.out, HO2.out⟩
        case round =>
          clear HB2 HO2
          rename World => wx
          obtain ⟨u, hu, rfl, hb, ho⟩ := hrel
          have HB := Lib.hid hb
          have HO := Lib.hid ho
          have kg := KG.out _ hb
          clear hb ho
          go_wp2_with fail
          refine (l4Moves_any L HSM.out.1 a0 c0 u k (by omega) hlt _ (GK.out _ HB.out)).mono ?_
          rintro e w3 ⟨rfl, hb3⟩
          have HB3 : Hid (Below w0.heap.size w0 w3) := HB.out.trans (hb3.mono HB.out.size)
          have HO3 := Lib.hid (HO.out.keep hb3)
          have hs3 := HB3.out.size
          clear hb3 kg HB HO
          cases hm : movesB L u k with
          | false =>
            have HNE : Hid (u + 1 ≤ orbN L k) := by
              show _ ≤ _
              rcases Nat.lt_or_ge u (orbN L k) with h | h
              · omega
              · have e : u = orbN L k := by omega
                have := (movesB_iff HSM.out.1 (u := u) (v := k) (by omega) hlt).2 (by rw [e]; exact orbN_moves HSM.out.1 hlt)
                rw [hm] at this
                cases this
            have hne := HNE.out
            clear hm
            go_wp2
            go_roundw
            case rel => exact ⟨u + 1, HNE.out, by go_num, HB3.out, HO3.out⟩
            case measure => simp [intOf]; omega
          | true =>
            have HUE : Hid ((u : Int) = minL (stands L L) k) := by
              show _ = _
              have h1 := orbN_least HSM.out.1 hlt ((movesB_iff HSM.out.1 (u := u) (v := k) (by omega) hlt).1 hm)
              rw [← orbN_eq HSM.out.1 hlt]
              omega
            have HI64 := Lib.hid (orb_i64 HSM.out (k := k + 1) (by omega))
            have HLL : Hid (((List.range k).map (fun v => minL (stands L L) v)).length = k) := by show _ = _; simp
            clear hm
            go_wp2_with (at_builtin; refine wpList_append_own _ rfl (.tmp 24) (.tmp 26) 31 rfl w0.heap.size 2 i0 (.int .i64 0) 1 8 Try.underlying31 hi hz0 hz1 hz2 rfl (by decide) _ _ _ rfl (HO3.out.owns.alloc _) ⟨w3.heap.size, 0, none⟩ 1 1 [.int .i64 (u : Int)] rfl rfl (lit1 _ _ _) (one1 _) ?d3 ?d4 ?d5 ?_)
            case d3 => rw [HLL.out]; unfold maxLen; omega
            case d4 => rw [HLL.out]; omega
            case d5 => simp; omega
            intro v4 w4 hown4 hgrow4 _
            have HB4 : Hid (Below w0.heap.size w0 w4) := (HB3.out.alloc hs3 _).grown hgrow4 (by simp; omega) (fun j hj => (HO3.out.lt j hj).1)
            have HO4 : Hid (OwnRow 2 w4 w0.heap.size v4 ((List.range (k + 1)).map (fun v => minL (stands L L) v))) := OwnRow.of_ownsRow (n := k + 1) (by rw [HUE.out] at hown4; simpa [List.range_succ] using hown4) (by simp; unfold maxLen; omega) HI64.out
            clear hown4 hgrow4
            go_wp2
            go_roundw
            case rel => exact ⟨k + 1, by omega, by go_num, HO4.out, HB4.out, fun _ => HSM.out⟩
            case measure => simp [intOf]; omega
      · rw [decide_eq_false hSm]
        obtain rfl : k = 0 := Nat.eq_zero_of_not_pos (fun h => hSm (HS.out h))
        obtain ⟨a4, c4, e4⟩ := HO2.out.row.slice
        have HP : Hid (GaveRow w (orbL L) (.returned u3) w2) := by
          show GaveRow _ _ _ _
          refine ⟨_, a4, c4, by rw [e4], ?_, HA.out.trans (HB2.out.mono hzw)⟩
          rw [← e4, show orbL L = [] from if_neg hSm]
          exact HO2.out.mono hzw
        rw [e4] at HP ⊢
        clear e4 hSm
        go_wp2
        go_ret
        exact HP.out
    · obtain rfl : k = L.length := by omega
      obtain ⟨a4, c4, e4⟩ := HO1.out.row.slice
      have HP : Hid (GaveRow w (orbL L) (.returned u3) w1) := by
        show GaveRow _ _ _ _
        refine ⟨_, a4, c4, by rw [e4], ?_, HA.out.trans (HB1.out.mono hzw)⟩
        rw [← e4]
        by_cases hSm : SmallP L
        · rw [← orb_row hSm]; exact HO1.out.mono hzw
        · have h0 : L.length = 0 := Nat.eq_zero_of_not_pos (fun h => hSm (HS.out h))
          rw [show orbL L = [] from if_neg hSm]
          have := HO1.out.mono hzw
          rw [h0] at this
          exact this
      rw [e4] at HP ⊢
      simp only [List.length_map, List.length_range] at HP
      clear e4
      go_wp2
      go_ret
      exact HP.out

end Go.Proofs.Ytnjkhiheapmlmaa
