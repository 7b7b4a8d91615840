/- The texts OL4, OL5, OL6, OL7, joined. -/
import Derived.Test.YtnjkhiheapmlmaaDoorQLL3
import Derived.Test.YtnjkhiheapmlmaaDoorQW2
import Derived.Test.YtnjkhiheapmlmaaDoorQPO1
import Derived.Test.YtnjkhiheapmlmaaDoorQPO6

/- Walks: the search by a queue over both sides of each vertex, of the model. -/
namespace Go.Proofs.YtnjkhiheapmlmaaDoor
open Go.RowKit

/-- Each vertex twice: on an even and on an odd step. -/
def twA (A : Nat → Nat → Bool) (x y : Nat) : Bool := A (x / 2) (y / 2) && (x % 2 != y % 2)
theorem twA_iff {A : Nat → Nat → Bool} {x y : Nat} : twA A x y = true ↔ A (x / 2) (y / 2) = true ∧ x % 2 ≠ y % 2 := by unfold twA; rw [Bool.and_eq_true, bne_iff_ne]
theorem wk_twice {A : Nat → Nat → Bool} {n s : Nat} (hs : s < n) : ∀ k y, Wk (twA A) (allS (2 * n)) (2 * s) k y ↔ Wk A (allS n) s k (y / 2) ∧ y % 2 = k % 2 := by
  intro k
  induction k with
  | zero =>
    intro y
    constructor
    · rintro ⟨rfl, h⟩; exact ⟨⟨by omega, (allS_iff _ _).2 hs⟩, by omega⟩
    · rintro ⟨⟨h1, h2⟩, h3⟩; exact ⟨by omega, (allS_iff _ _).2 (by omega)⟩
  | succ k ih =>
    intro y
    constructor
    · rintro ⟨h1, x, hx, ha⟩
      rw [ih] at hx
      rw [twA_iff] at ha
      have := (allS_iff _ _).1 h1
      exact ⟨⟨(allS_iff _ _).2 (by omega), x / 2, hx.1, ha.1⟩, by omega⟩
    · rintro ⟨⟨h1, x, hx, ha⟩, h2⟩
      have := (allS_iff _ _).1 h1
      refine ⟨(allS_iff _ _).2 (by omega), 2 * x + k % 2, (ih _).2 ⟨?_, by omega⟩, twA_iff.2 ⟨?_, by omega⟩⟩
      · rw [show (2 * x + k % 2) / 2 = x from by omega]; exact hx
      · rw [show (2 * x + k % 2) / 2 = x from by omega]; exact ha

set_option maxHeartbeats 8000000 in
set_option maxRecDepth 100000 in
theorem l3Twice_any (v : Value) (L : List (List Int)) (s : Nat) (w : World) (h : GridAt w v L) (hG : GraphP L) (hs : s < L.length) :
    Calls Tryd.prog 67 #[.agg #[v], .int .i64 (s : Int)] w (GaveRow w (distL (2 * L.length) (twA (nearB L)) (allS (2 * L.length)) (2 * s))) := by
  have hz := hG.1
  have hS : Hid (∀ u, allS (2 * L.length) u = true → u < 2 * L.length) := fun u hu => (allS_iff _ _).1 hu
  have HG := Lib.hid hG
  obtain ⟨b, o, c, A, C, rfl, l1, l2, hc⟩ := h.pos (by omega)
  obtain ⟨W1, hW1⟩ : ∃ W1, W1 = w.alloc (.cells #[.slice (some ⟨b, o, none⟩) L.length c] 26) := ⟨_, rfl⟩
  have hs1 : W1.heap.size = w.heap.size + 1 := by rw [hW1]; simp
  have ha : Below w.heap.size w W1 := by rw [hW1]; exact (Below.refl _ _).alloc (Nat.le_refl _) _
  have kb : W1.cell? ⟨w.heap.size, 0, none⟩ = some (.slice (some ⟨b, o, none⟩) L.length c) := by rw [hW1]; go_simp
  have HC : Hid (∀ i, i < L.length → W1.cell? ⟨b, o + i, none⟩ = some (.slice (A i) (nthR L i).length (C i)) ∧ RowAt W1 (.slice (A i) (nthR L i).length (C i)) (nthR L i)) := fun i hi => ⟨cell_keep ha (hc i hi).1, (hc i hi).2.keep ha⟩
  have HGr := Lib.hid (h.keep ha)
  have KB := Lib.hid kb
  have HA := Lib.hid ha
  have HW1 := Lib.hid hW1
  have hsl : w.heap.size ≤ W1.heap.size := by omega
  clear hc ha hW1 h hG hs1
  obtain ⟨i0, hi, hz0, hz1, hz2⟩ := info_parts Tryd.infoI
  go_enter Tryd.func67, Tryd.ntmps67
  go_wp2_with fail
  rw [← HW1.out]
  refine (l1Size_any _ _ _ HGr.out).mono ?_
  rintro e w2 ⟨rfl, hb2⟩
  have hs2 : W1.heap.size ≤ w2.heap.size := hb2.size
  have HB2 := Lib.hid hb2
  have HO0 : Hid (OwnRow 2 (w2.alloc (.cells #[] 2)) W1.heap.size (.slice (some ⟨w2.heap.size, 0, none⟩) 0 0) (List.replicate 0 (-1 : Int))) :=
    OwnRow.of_ownsRow (n := 0) (World.ownsRow_lit w2 #[] 0 hs2 (Nat.zero_le _) rfl) (Nat.zero_le _) (fun x hx => absurd hx (by simp))
  have HBZ : Hid (Below W1.heap.size W1 (w2.alloc (.cells #[] 2))) := hb2.trans ((Below.refl _ _).alloc hs2 _)
  clear hb2 kb
  go_wp2_with fail
  go_loopw [6, 7] (fun sv iv wr => ∃ k : Nat, k ≤ 2 * L.length ∧ iv = .int .i64 k ∧ OwnRow 2 wr W1.heap.size sv (List.replicate k (-1 : Int)) ∧ Below W1.heap.size W1 wr) (fun _ iv _ => 2 * L.length - (intOf iv).toNat)
  case atStart => exact ⟨0, Nat.zero_le _, rfl, HO0.out, HBZ.out⟩
  case round =>
    clear HO0 HBZ
    obtain ⟨k, hk, rfl, ho, hb⟩ := hrel
    have HO := Lib.hid ho
    have HB := Lib.hid hb
    have hzr : W1.heap.size ≤ wr.heap.size := hb.size
    clear ho hb
    by_cases hlt : k < 2 * L.length
    · go_wp2_with (at_builtin; refine wpList_append_own _ rfl (.tmp 22) (.tmp 23) 28 rfl W1.heap.size 2 i0 (.int .i64 0) 1 8 Tryd.underlying28 hi hz0 hz1 hz2 rfl (by decide) _ _ _ rfl (HO.out.owns.alloc _) ⟨wr.heap.size, 0, none⟩ 1 1 [.int .i64 (-1)] rfl rfl ?d1 ?d2 ?d3 ?d4 ?d5 ?_)
      case d1 =>
        intro j u hj
        match j, hj with
        | 0, hj => simp at hj; subst hj; simp [Addr.add]
      case d2 => intro u hu; simp at hu; subst hu; rfl
      case d3 => simp; unfold maxLen; omega
      case d4 => simp; omega
      case d5 => simp; omega
      intro v4 w4 hown4 hgrow4 _
      have hb4 : Below W1.heap.size W1 w4 := (HB.out.alloc hzr _).grown hgrow4 (by simp; omega) (fun j hj => (HO.out.lt j hj).1)
      have HO4 : Hid (OwnRow 2 w4 W1.heap.size v4 (List.replicate (k + 1) (-1 : Int))) := OwnRow.of_ownsRow (n := (List.replicate k (-1 : Int)).length + 1) (by rw [List.replicate_succ']; simpa using hown4) (by simp; unfold maxLen; omega) (fun x hx => by rw [List.mem_replicate] at hx; rw [hx.2]; unfold I64; omega)
      have HB4 := Lib.hid hb4
      clear hown4 hgrow4 hb4
      go_wp2
      go_roundw
      case rel => exact ⟨k + 1, by omega, by go_num, HO4.out, HB4.out⟩
      case measure => simp [intOf]; omega
    · have HKE : Hid (k = 2 * L.length) := (by show _ = _; omega)
      have hSk : Hid (∀ u, allS k u = true → u < k) := fun u hu => (allS_iff _ _).1 hu
      obtain ⟨g, cap, rfl, hgB, hgl, hc1, hc2⟩ := HO.out.posB (by simp; omega)
      rw [List.length_replicate] at HO hc1 ⊢
      have hI0 : I64 0 := by unfold I64; omega
      have hsn : 2 * s < k := by omega
      obtain ⟨hput, hcu, hfu, _⟩ := HO.out.laidAt' (by simp) hsn hI0
      have hrep : nth (List.replicate (k) (-1 : Int)) (2 * s) = -1 := by rw [nth_eq (by simpa using hsn)]; simp
      rw [hrep] at hcu
      have HP := Lib.hid hput
      clear hput hrep
      have HSK : Hid (Seek W1 g cap (k) ((List.replicate (k) (-1 : Int)).set (2 * s) 0) [((2 * s : Nat) : Int)] (.slice (some ⟨wr.heap.size, 0, none⟩) 1 1) ((wr.setCell ⟨g, 2 * s, none⟩ (.int .i64 0)).alloc (.cells #[.int .i64 ((2 * s : Nat) : Int)] 2))) := by
        have hzz : (wr.setCell ⟨g, 2 * s, none⟩ (.int .i64 0)).heap.size = wr.heap.size := by simp
        have hbA : Below (wr.setCell ⟨g, 2 * s, none⟩ (.int .i64 0)).heap.size (wr.setCell ⟨g, 2 * s, none⟩ (.int .i64 0)) ((wr.setCell ⟨g, 2 * s, none⟩ (.int .i64 0)).alloc (.cells #[.int .i64 ((2 * s : Nat) : Int)] 2)) := (Below.refl _ _).alloc (Nat.le_refl _) _
        refine ⟨HP.out.keep hbA, ?_, ?_, (HB.out.setCell (p := ⟨g, 2 * s, none⟩) hgB _).trans (hbA.mono (by rw [hzz]; exact hzr))⟩
        · have h0 := World.ownsRow_lit (wr.setCell ⟨g, 2 * s, none⟩ (.int .i64 0)) #[.int .i64 ((2 * s : Nat) : Int)] (e := 2) (size := 1) 1 (base := W1.heap.size) (by rw [hzz]; exact hzr) (by unfold maxLen; omega) rfl
          rw [hzz] at h0
          exact OwnRow.of_ownsRow (xs := [((2 * s : Nat) : Int)]) (n := 1) h0 (by simp; unfold maxLen; omega) (fun x hx => by simp at hx; subst hx; unfold I64; omega)
        · intro k' hk'; simp [Value.ownBlock] at hk'; omega
      have HBF : Hid (Bfs (twA (nearB L)) (allS (k)) (2 * s) (k) ((List.replicate (k) (-1 : Int)).set (2 * s) 0) [((2 * s : Nat) : Int)] 0) := Bfs.start hsn ((allS_iff _ _).2 hsn)
      clear HP
      go_wp2_with fail
      clear hcu hfu HO HB
      go_loopw [8, 9] (fun mv iv wr => ∃ (out met : List Int) (j : Nat), iv = .int .i64 j ∧ Seek W1 g cap (k) out met mv wr ∧ Bfs (twA (nearB L)) (allS (k)) (2 * s) (k) out met j) (fun _ iv _ => 32 - (intOf iv).toNat)
      case atStart => exact ⟨_, _, 0, rfl, HSK.out, HBF.out⟩
      case round =>
        clear HSK HBF
        rename World => w3
        obtain ⟨out, met, j, rfl, hsk, hbf⟩ := hrel
        have hml := hbf.met_le
        obtain ⟨am, cm, em⟩ := hsk.met.row.slice
        subst em
        have HSK := Lib.hid hsk
        have HBF := Lib.hid hbf
        by_cases hjl : j < met.length
        · have hmr := hbf.at_lt hjl
          obtain ⟨m, hm⟩ : ∃ m : Nat, nth met j = (m : Int) := ⟨(nth met j).toNat, by omega⟩
          have hmn : m < k := by omega
          obtain ⟨p, r, hpr, hr2⟩ : ∃ p r : Nat, m = 2 * p + r ∧ r < 2 := ⟨m / 2, m % 2, by omega, by omega⟩
          have hpn : p < L.length := by omega
          obtain ⟨gm, cm', e1, hgmB, hgml, hcm1, hcm2⟩ := hsk.met.posB (by omega)
          simp only [Value.slice.injEq, true_and] at e1
          obtain ⟨rfl, rfl⟩ := e1
          have hcj := hsk.met.cells' j hjl
          rw [hm] at hcj
          have hkb := cell_keep hsk.bel KB.out
          have hck := cell_keep hsk.bel (HC.out p hpn).1
          have hrow := (HC.out p hpn).2
          obtain ⟨a1, ha1⟩ : ∃ a1, a1 = A p := ⟨_, rfl⟩
          obtain ⟨c1, hc1⟩ : ∃ c1, c1 = C p := ⟨_, rfl⟩
          rw [← ha1, ← hc1] at hck hrow
          have HROW := Lib.hid hrow
          clear ha1 hc1 hrow
          have HSET := Lib.hid (HG.out.2.1 p hpn).1
          have hrl : (nthR L p).length ≤ 16 := by have := HSET.out.len (by omega); omega
          have HM := Lib.hid hm
          have HPR := Lib.hid hpr
          have hq1 : Int.tdiv (m : Int) 2 = (p : Int) := by rw [Int.tdiv_eq_ediv_of_nonneg (by omega)]; omega
          have hq2 : ((m : Int) / 2) = (p : Int) := by omega
          have hq3 : IntKind.i64.wrap (p : Int) = (p : Int) := IntWalk.i64_in _ (by omega)
          have hj32 : j < 32 := by omega
          clear hm hsk hbf hmr hpr
          go_wp2
          go_quiet (fail)
          clear hcj hck hkb hq1 hq2 hq3
          go_wp2_with fail
          go_loopw [8, 11] (fun mv kv wr => ∃ (out met : List Int) (q : Nat), q ≤ (nthR L p).length ∧ kv = .int .i64 q ∧ Seek W1 g cap (k) out met mv wr ∧ Bfs (twA (nearB L)) (allS (k)) (2 * s) (k) out met j ∧ j < met.length ∧ nth met j = (m : Int) ∧ ∀ q', q' < q → 0 ≤ nth out (2 * (nth (nthR L p) q').toNat + 1 - r)) (fun _ kv _ => (nthR L p).length - (intOf kv).toNat)
          case atStart => exact ⟨out, met, 0, Nat.zero_le _, rfl, HSK.out.later (below_drewN (Below.refl _ _) _), HBF.out, hjl, HM.out, fun q' hq' => absurd hq' (by omega)⟩
          case round =>
            clear HSK HBF HM hjl hml hgmB hgml hcm1 hcm2
            rename World => w4
            obtain ⟨out, met, q, hq, rfl, hsk, hbf, hjl, hm, hdone⟩ := hrel
            have hml := hbf.met_le
            obtain ⟨gm, cm', e1, hgmB, hgml, hcm1, hcm2⟩ := hsk.met.posB (by omega)
            subst e1
            by_cases hql : q < (nthR L p).length
            · have hst := HSET.out q hql
              obtain ⟨x, hx⟩ : ∃ x : Nat, nth (nthR L p) q = (x : Int) := ⟨(nth (nthR L p) q).toNat, by have := hst.1; omega⟩
              have hxn : x < L.length := by have := hst.2.1; omega
              obtain ⟨b1, o1, c1', e1, m1, m2, hcr⟩ := (HROW.out.keep hsk.bel).pos (by omega)
              simp only [Value.slice.injEq, true_and] at e1
              obtain ⟨rfl, rfl⟩ := e1
              have hcq := hcr q hql
              rw [hx] at hcq
              have hcj := hsk.met.cells' j hjl
              rw [hm] at hcj
              obtain ⟨t, ht⟩ : ∃ t, t = 2 * x + 1 - r := ⟨_, rfl⟩
              have htn : t < k := by omega
              have hlen := hbf.len
              have hot := hsk.out.cells' t (by omega)
              have hnear : twA (nearB L) m t = true := by
                have h1 : nearB L p x = true := by show hasB _ _ = true; rw [hasB_iff]; exact ⟨q, hql, hx⟩
                have := HPR.out
                exact twA_iff.2 ⟨by rw [show m / 2 = p from by omega, show t / 2 = x from by omega]; exact h1, by omega⟩
              have ha1 : IntKind.i64.wrap (2 * (x : Int)) = 2 * (x : Int) := IntWalk.i64_in _ (by omega)
              have ha2 : IntKind.i64.wrap (2 * (x : Int) + 1) = 2 * (x : Int) + 1 := IntWalk.i64_in _ (by omega)
              have ha3 : IntKind.i64.wrap (2 * (x : Int) + 1 - (r : Int)) = (t : Int) := by rw [show 2 * (x : Int) + 1 - (r : Int) = (t : Int) from by omega]; exact IntWalk.i64_in _ (by omega)
              have hr1 : Int.tmod (m : Int) 2 = (r : Int) := by have := HPR.out; rw [Int.tmod_eq_emod_of_nonneg (by omega)]; omega
              have hr3 : ((m : Int) % 2) = (r : Int) := by have := HPR.out; omega
              have HSK := Lib.hid hsk
              have HBF := Lib.hid hbf
              have HDN := Lib.hid hdone
              have HXX := Lib.hid hx
              have HM := Lib.hid hm
              have HTT := Lib.hid ht
              have hom := hsk.out.cells' m (by omega)
              have hd0 := hbf.out_nonneg hjl
              rw [hm, Int.toNat_natCast] at hd0
              have hd1 : nth out m < ((k : Nat) : Int) := by
                have := atD_lt hSk.out (hbf.dist m hmn hd0)
                omega
              have hI1 : I64 (nth out m + 1) := by unfold I64; omega
              have hw1 : IntKind.i64.wrap (nth out m + 1) = nth out m + 1 := IntWalk.i64_in _ (by omega)
              have hIt := hsk.out.1 _ (nth_mem (xs := out) (i := t) (by omega))
              clear hcr ht
              by_cases hneg : nth out t < 0
              · have hdn : decide (nth out t < 0) = true := by simpa using hneg
                obtain ⟨_, _, hft, _⟩ := hsk.out.laidAt' hlen htn hI1
                have HADD : Hid (Bfs (twA (nearB L)) (allS (k)) (2 * s) (k) (out.set t (nth out m + 1)) (met ++ [(t : Int)]) j) := by
                  have := hbf.add hSk.out hjl htn (by rw [hm, Int.toNat_natCast]; exact hnear) ((allS_iff _ _).2 htn) hneg
                  rwa [hm, Int.toNat_natCast] at this
                clear hsk hbf hdone hx hm hnear hst hneg
                go_wp2
                go_quiet (fail)
                rename_i nq
                have HS5 : Hid (Seek W1 g cap (k) (out.set t (nth out m + 1)) met (.slice (some ⟨gm, 0, none⟩) met.length cm') ((w4.drewN nq).setCell ⟨g, t, none⟩ (.int .i64 (nth out m + 1)))) := (HSK.out.later (below_drewN (Below.refl _ _) nq)).put hlen htn hI1
                go_wp2_with (at_builtin; refine wpList_append_lies _ rfl (.tmp 81) (.tmp 83) 28 rfl W1.heap.size 2 i0 (.int .i64 0) 1 8 Tryd.underlying28 hi hz0 hz1 hz2 rfl (by decide) _ _ _ rfl (HS5.out.met.owns.alloc _) ⟨w4.heap.size, 0, none⟩ 1 1 [.int .i64 (t : Int)] rfl rfl ?d1 ?d2 (by decide) ?d3 ?d4 ?d5 (w4.heap.size + 1) ?d6 ?_)
                case d1 =>
                  intro j u hj
                  have hcn : ∀ (W5 : World), W5.heap.size = w4.heap.size → (W5.alloc (.cells #[.int .i64 (t : Int)] 2)).cell? ⟨w4.heap.size, 0, none⟩ = some (.int .i64 (t : Int)) := fun W5 h5 => by rw [← h5]; go_simp
                  match j, hj with
                  | 0, hj => simp at hj; subst hj; exact hcn _ (by simp)
                case d2 => intro u hu; simp at hu; subst hu; rfl
                case d3 => unfold maxLen; omega
                case d4 => omega
                case d5 => have := HS5.out.bel.size; simp at this ⊢; omega
                case d6 => simp
                intro g5 cap5 w6 hown6 hgrow6 hat6 hlt6
                have HS6 : Hid (Seek W1 g cap (k) (out.set t (nth out m + 1)) (met ++ [(t : Int)]) (.slice (some ⟨g5, 0, none⟩) (met.length + 1) cap5) w6) := HS5.out.more (by unfold I64; omega) (by unfold maxLen; omega) hown6 hgrow6 (fun k' hk' => by
                  simp only [Value.ownBlock, Option.some.injEq] at hk' hat6 ⊢
                  rcases hat6 with h | h
                  · left; omega
                  · right; simp; omega)
                clear hown6 hgrow6 hat6 HS5
                go_wp2
                go_roundw
                case rel =>
                  refine ⟨_, _, q + 1, by omega, by go_num, HS6.out, HADD.out, by simp; omega, by rw [nth_append_lt hjl]; exact HM.out, fun q' hq' => ?_⟩
                  rcases Nat.lt_succ_iff_lt_or_eq.1 hq' with h' | h'
                  · by_cases e : 2 * (nth (nthR L p) q').toNat + 1 - r = t
                    · rw [e, nth_set_same (by omega)]; omega
                    · rw [nth_set_other (fun h => e h.symm)]; exact HDN.out q' h'
                  · subst h'; rw [HXX.out, Int.toNat_natCast, ← HTT.out, nth_set_same (by omega)]; omega
                case measure => simp [intOf]; omega
              · have hdn : decide (nth out t < 0) = false := by simpa using hneg
                have HNG := Lib.hid hneg
                clear hsk hbf hdone hx hm hnear hst hneg hom hd0 hd1 hI1 hw1
                go_wp2
                go_quiet (fail)
                go_wp2
                go_roundw
                case rel =>
                  refine ⟨out, met, q + 1, by omega, by go_num, HSK.out.later (below_drewN (Below.refl _ _) _), HBF.out, hjl, HM.out, fun q' hq' => ?_⟩
                  rcases Nat.lt_succ_iff_lt_or_eq.1 hq' with h' | h'
                  · exact HDN.out q' h'
                  · subst h'; rw [HXX.out, Int.toNat_natCast, ← HTT.out]; have := HNG.out; omega
                case measure => simp [intOf]; omega
            · obtain rfl : q = (nthR L p).length := by omega
              have hnx := hbf.next hjl (fun y hy ha hsy => by
                rw [hm, Int.toNat_natCast, twA_iff] at ha
                have hpr := HPR.out
                rw [show m / 2 = p from by omega] at ha
                obtain ⟨q', hq', e⟩ := (hasB_iff _ _).1 ha.1
                have := hdone q' hq'
                rw [e, Int.toNat_natCast, show 2 * (y / 2) + 1 - r = y from by omega] at this
                exact this)
              have HSK := Lib.hid hsk
              have HNX := Lib.hid hnx
              clear hsk hbf hdone hnx
              go_wp2
              go_roundw
              case rel => exact ⟨out, met, j + 1, by go_num, HSK.out, HNX.out⟩
              case measure => simp [intOf]; omega
        · obtain rfl : j = met.length := by have := hbf.le; omega
          have HE : Hid (distL (k) (twA (nearB L)) (allS (k)) (2 * s) = out) := (hbf.finish hSk.out).symm
          clear hsk hbf
          go_wp2
          go_ret
          rw [← HKE.out]
          exact ⟨_, _, _, rfl, by rw [HE.out]; exact HSK.out.out.mono (by omega), HA.out.trans (HSK.out.bel.mono (by omega))⟩

end Go.Proofs.YtnjkhiheapmlmaaDoor

/- Walks: the least odd round from a vertex, of the model. -/
namespace Go.Proofs.YtnjkhiheapmlmaaDoor
open Go.RowKit

section
variable {L : List (List Int)} {s k : Nat}
theorem odC_step (hG : GraphP L) (hs : s < L.length) (h : Round L s k) : ∀ i, i ≤ k → Wk (nearB L) (allS L.length) s (k - i) (curD (rowM L) (exM (rowM L) s) k s i) ∧ (i < k → rowM L (curD (rowM L) (exM (rowM L) s) k s i) &&& exM (rowM L) s (k - 1 - i) ≠ 0) := by
  have := exD_step (M := rowM L) (n := L.length) (v := s) hG.1.2 hs (fun i => rowM_lt (by have := hG.1; omega) (fun v hv => (hG.2.1 v hv).1) i) (fun a b h => row_bit hG h) (by rw [nearM_eq hG]; exact nearB_symm hG) (k := k) (by rw [nearM_eq hG]; exact h)
  rwa [nearM_eq hG] at this
theorem odC_next (hG : GraphP L) (hs : s < L.length) (h : Round L s k) {i : Nat} (hi : i < k) : nearB L (curD (rowM L) (exM (rowM L) s) k s i) (curD (rowM L) (exM (rowM L) s) k s (i + 1)) = true ∧ Wk (nearB L) (allS L.length) s (k - 1 - i) (curD (rowM L) (exM (rowM L) s) k s (i + 1)) ∧ ∀ y, y < curD (rowM L) (exM (rowM L) s) k s (i + 1) → nearB L (curD (rowM L) (exM (rowM L) s) k s i) y = true → ¬ Wk (nearB L) (allS L.length) s (k - 1 - i) y := by
  have h3 := (odC_step hG hs h i (by omega)).2 hi
  have hlt : rowM L (curD (rowM L) (exM (rowM L) s) k s i) &&& exM (rowM L) s (k - 1 - i) < 65536 := Nat.lt_of_le_of_lt Nat.and_le_left (rowM_lt (by have := hG.1; omega) (fun v hv => (hG.2.1 v hv).1) _)
  obtain ⟨_, h5, h6⟩ := leastM_spec h3 hlt
  have hb := exM_bit (M := rowM L) hG.1.2 hs (fun a b h => row_bit hG h) (k - 1 - i)
  rw [nearM_eq hG] at hb
  rw [Nat.testBit_and, Bool.and_eq_true] at h5
  refine ⟨by rw [← nearM_eq hG]; exact h5.1, (hb _).1 h5.2, fun y hy ha hw => ?_⟩
  have h7 := h6 y hy
  rw [Nat.testBit_and, (hb y).2 hw, Bool.and_true] at h7
  rw [← nearM_eq hG] at ha
  rw [show nearM (rowM L) (curD (rowM L) (exM (rowM L) s) k s i) y = (rowM L (curD (rowM L) (exM (rowM L) s) k s i)).testBit y from rfl, h7] at ha
  cases ha
theorem odC_back (hG : GraphP L) (hs : s < L.length) (h : Round L s k) : ∀ i, i ≤ k → Wk (nearB L) (allS L.length) s i (curD (rowM L) (exM (rowM L) s) k s i) := by
  intro i
  induction i with
  | zero => intro _; exact ⟨rfl, (allS_iff _ _).2 hs⟩
  | succ i ih =>
    intro hi
    obtain ⟨h1, h2, _⟩ := odC_next hG hs h (i := i) (by omega)
    exact ⟨wk_in h2, _, ih (by omega), h1⟩
/-- The distance on the doubled graph says whether there is a walk of just that length. -/
theorem far_iff (hG : GraphP L) (hs : s < L.length) (h : Round L s k) (hk : k % 2 = 1) (hmin : ∀ j, j < k → j % 2 = 1 → ¬ Round L s j) {i y : Nat} (hi : i < k) (ha : nearB L (curD (rowM L) (exM (rowM L) s) k s i) y = true) :
    dOf (twA (nearB L)) (allS (2 * L.length)) (2 * s) (2 * y + (k - 1 - i) % 2) = ((k - 1 - i : Nat) : Int) ↔ Wk (nearB L) (allS L.length) s (k - 1 - i) y := by
  have hw := wk_twice (A := nearB L) hs
  constructor
  · intro e
    obtain ⟨d, hd⟩ := dOf_nonneg.1 (show 0 ≤ dOf (twA (nearB L)) (allS (2 * L.length)) (2 * s) (2 * y + (k - 1 - i) % 2) by omega)
    rw [dOf_at hd] at e
    have e' : d = k - 1 - i := by omega
    subst e'
    have := ((hw _ _).1 hd.1).1
    rwa [show (2 * y + (k - 1 - i) % 2) / 2 = y from by omega] at this
  · intro hy
    refine dOf_at ⟨(hw _ _).2 ⟨by rw [show (2 * y + (k - 1 - i) % 2) / 2 = y from by omega]; exact hy, by omega⟩, fun e he hwe => ?_⟩
    obtain ⟨h1, h2⟩ := (hw _ _).1 hwe
    rw [show (2 * y + (k - 1 - i) % 2) / 2 = y from by omega] at h1
    have hb := odC_back hG hs h i (by omega)
    have h3 : Wk (nearB L) (allS L.length) s (e + 1) (curD (rowM L) (exM (rowM L) s) k s i) := ⟨wk_in hb, y, h1, by rw [nearB_symm hG]; exact ha⟩
    exact hmin (e + 1 + i) (by omega) (by omega) (wk_trans h3 (wk_symm (nearB_symm hG) hb))
theorem far_odd (hs : s < L.length) : (∃ k, k % 2 = 1 ∧ Round L s k ∧ (∀ j, j < k → j % 2 = 1 → ¬ Round L s j) ∧ dOf (twA (nearB L)) (allS (2 * L.length)) (2 * s) (2 * s + 1) = (k : Int)) ∨ ((∀ j, j % 2 = 1 → ¬ Round L s j) ∧ dOf (twA (nearB L)) (allS (2 * L.length)) (2 * s) (2 * s + 1) < 0) := by
  have hw := wk_twice (A := nearB L) hs
  have hrd : ∀ j, j % 2 = 1 → (Round L s j ↔ Wk (twA (nearB L)) (allS (2 * L.length)) (2 * s) j (2 * s + 1)) := fun j hj => by
    rw [hw, show (2 * s + 1) / 2 = s from by omega]
    exact ⟨fun h => ⟨h, by omega⟩, fun h => h.1⟩
  by_cases h : 0 ≤ dOf (twA (nearB L)) (allS (2 * L.length)) (2 * s) (2 * s + 1)
  · obtain ⟨k, hk⟩ := dOf_nonneg.1 h
    have hk2 : k % 2 = 1 := by have := ((hw _ _).1 hk.1).2; omega
    exact .inl ⟨k, hk2, (hrd k hk2).2 hk.1, fun j hj hj2 hr => hk.2 j hj ((hrd j hj2).1 hr), dOf_at hk⟩
  · refine .inr ⟨fun j hj hr => ?_, by omega⟩
    obtain ⟨d, _, hd⟩ := wk_atD ((hrd j hj).1 hr)
    exact h (dOf_nonneg.2 ⟨d, hd⟩)
end
/-- What l3Odd answers. -/
def OddAt (L : List (List Int)) (s : Nat) (X : List Int) : Prop :=
  (∃ k, k % 2 = 1 ∧ Round L s k ∧ (∀ j, j < k → j % 2 = 1 → ¬ Round L s j) ∧ X = rdN (rowM L) s k) ∨ ((∀ j, j % 2 = 1 → ¬ Round L s j) ∧ X = [])

end Go.Proofs.YtnjkhiheapmlmaaDoor

/- Walks: l3Odd, of the model. -/
namespace Go.Proofs.YtnjkhiheapmlmaaDoor
open Go.RowKit

theorem range_snoc (f : Nat → Int) (i : Nat) : (List.range (i + 1)).map f = (List.range i).map f ++ [f i] := by rw [List.range_succ, List.map_append]; rfl
theorem rdN_range {M : Nat → Nat} {v k : Nat} (h : (exM M v k).testBit v = true) : rdN M v k = (List.range k).map (fun j => (curD M (exM M v) k v j : Int)) := by
  rw [rdN_yes h]
  unfold wayD
  rw [range_snoc, List.take_left' (by simp)]

theorem set_mono {xs : List Int} {n : Int} (h : SetP xs n) {i : Nat} : ∀ j, i ≤ j → j < xs.length → nth xs i ≤ nth xs j := by
  intro j
  induction j with
  | zero => intro h1 _; rw [show i = 0 from by omega]; exact Int.le_refl _
  | succ j ih =>
    intro h1 h2
    by_cases e : i = j + 1
    · rw [e]; exact Int.le_refl _
    · have h3 := (h (j + 1) h2).2.2 (by omega)
      rw [Nat.add_sub_cancel] at h3
      have := ih (by omega) (by omega)
      omega

set_option maxHeartbeats 8000000 in
set_option maxRecDepth 100000 in
theorem l3Odd_any (v : Value) (L : List (List Int)) (s : Nat) (w : World) (h : GridAt w v L) (hG : GraphP L) (hs : s < L.length) :
    Calls Tryd.prog 35 #[.agg #[v], .int .i64 (s : Int)] w (fun e w' => ∃ X, OddAt L s X ∧ GaveRow w X e w') := by
  have hz := hG.1
  have HG := Lib.hid hG
  obtain ⟨b, o, c, A, C, rfl, l1, l2, hc⟩ := h.pos (by omega)
  obtain ⟨W1, hW1⟩ : ∃ W1, W1 = w.alloc (.cells #[.slice (some ⟨b, o, none⟩) L.length c] 26) := ⟨_, rfl⟩
  have hsl : w.heap.size ≤ W1.heap.size := by rw [hW1]; simp
  have ha : Below w.heap.size w W1 := by rw [hW1]; exact (Below.refl _ _).alloc (Nat.le_refl _) _
  have kb : W1.cell? ⟨w.heap.size, 0, none⟩ = some (.slice (some ⟨b, o, none⟩) L.length c) := by rw [hW1]; go_simp
  have HC : Hid (∀ w', Below W1.heap.size W1 w' → ∀ i, i < L.length → w'.cell? ⟨b, o + i, none⟩ = some (.slice (A i) (nthR L i).length (C i)) ∧ RowAt w' (.slice (A i) (nthR L i).length (C i)) (nthR L i)) := fun w' hb i hi => ⟨cell_keep hb (cell_keep ha (hc i hi).1), ((hc i hi).2.keep ha).keep hb⟩
  have HGr := Lib.hid (h.keep ha)
  have KB : Hid (∀ w', Below W1.heap.size W1 w' → w'.cell? ⟨w.heap.size, 0, none⟩ = some (.slice (some ⟨b, o, none⟩) L.length c)) := fun w' hb => cell_keep hb kb
  have HA := Lib.hid ha
  have HW1 := Lib.hid hW1
  clear hc ha hW1 h hG kb
  obtain ⟨i0, hi, hz0, hz1, hz2⟩ := info_parts Tryd.infoI
  go_enter Tryd.func35, Tryd.ntmps35
  go_wp2_with fail
  rw [← HW1.out]
  refine (l3Twice_any _ L s _ HGr.out HG.out hs).mono ?_
  rintro e w2 ⟨n2, a2, c2, rfl, ho2, hb2⟩
  obtain ⟨gf, cf, e7, hgfB, hgfl, hcf1, hcf2⟩ := ho2.posB (by rw [distL_len]; omega)
  rw [distL_len] at e7 hcf1
  simp only [Value.slice.injEq] at e7
  obtain ⟨rfl, rfl, rfl⟩ := e7
  have hs2 : W1.heap.size ≤ w2.heap.size := hb2.size
  have hf1 := ho2.cells' (2 * s + 1) (by rw [distL_len]; omega)
  rw [distL_nth (by omega)] at hf1
  have HF : Hid (∀ w', Below w2.heap.size w2 w' → ∀ u, u < 2 * L.length → w'.cell? ⟨gf, u, none⟩ = some (.int .i64 (dOf (twA (nearB L)) (allS (2 * L.length)) (2 * s) u))) := fun w' hb u hu => by have := cell_keep hb (ho2.cells' u (by rw [distL_len]; exact hu)); rwa [distL_nth hu] at this
  have HO3 : Hid (OwnRow 2 (w2.alloc (.cells #[] 2)) w2.heap.size (.slice (some ⟨w2.heap.size, 0, none⟩) 0 0) []) := OwnRow.of_ownsRow (n := 0) (xs := []) (World.ownsRow_lit w2 #[] 0 (Nat.le_refl _) (Nat.zero_le _) rfl) (Nat.zero_le _) (fun x hx => absurd hx (by simp))
  have HBZ : Hid (Below w2.heap.size w2 (w2.alloc (.cells #[] 2))) := (Below.refl _ _).alloc (Nat.le_refl _) _
  have HB2 := Lib.hid hb2
  obtain ⟨N, HN⟩ : ∃ N, Hid (N = 2 * L.length) := ⟨_, rfl⟩
  have hN1 : 2 * s + 1 < N := by have := HN.out; omega
  rw [← HN.out] at hcf1 ⊢
  clear ho2 hb2
  rcases far_odd (L := L) hs with ⟨k, hk2, hr, hmin, hD⟩ | ⟨hno, hD⟩
  · rw [hD] at hf1
    have hk0 : 0 < k := by omega
    have HR := Lib.hid hr
    have HMIN := Lib.hid hmin
    have hk32 : k < 33 := by
      have := dOf_lt (A := twA (nearB L)) (S := allS (2 * L.length)) (v := 2 * s) (n := 2 * L.length) (fun u hu => (allS_iff _ _).1 hu) (2 * s + 1)
      omega
    have HX : Hid (OddAt L s (rdN (rowM L) s k)) := .inl ⟨k, hk2, hr, hmin, rfl⟩
    have HRG := Lib.hid (rdN_range ((round_bit HG.out hs).2 hr))
    clear hr hmin hD
    go_wp2_with fail
    go_loopw [6, 7, 8] (fun lv ov vv wr => ∃ i : Nat, i ≤ k ∧ lv = .int .i64 ((k - i : Nat) : Int) ∧ vv = .int .i64 (curD (rowM L) (exM (rowM L) s) k s i : Int) ∧ OwnRow 2 wr w2.heap.size ov ((List.range i).map (fun j => (curD (rowM L) (exM (rowM L) s) k s j : Int))) ∧ Below w2.heap.size w2 wr) (fun lv _ _ _ => (intOf lv).toNat)
    case atStart => exact ⟨0, Nat.zero_le _, rfl, rfl, HO3.out, HBZ.out⟩
    case round =>
      clear HO3 HBZ hf1
      obtain ⟨i, hik, rfl, rfl, ho, hb⟩ := hrel
      have HO := Lib.hid ho
      have HB := Lib.hid hb
      have hzr : w2.heap.size ≤ wr.heap.size := hb.size
      clear ho hb
      by_cases hil : i < k
      · obtain ⟨lf, hlf⟩ : ∃ lf, lf = k - 1 - i := ⟨_, rfl⟩
        have hcn : curD (rowM L) (exM (rowM L) s) k s i < L.length := (allS_iff _ _).1 (wk_in (odC_step HG.out hs HR.out i hik).1)
        obtain ⟨hn1, hn2, hn3⟩ := odC_next HG.out hs HR.out hil
        have HFI : Hid (∀ y, nearB L (curD (rowM L) (exM (rowM L) s) k s i) y = true → (dOf (twA (nearB L)) (allS (2 * L.length)) (2 * s) (2 * y + lf % 2) = (lf : Int) ↔ Wk (nearB L) (allS L.length) s lf y)) := fun y hy => by rw [hlf]; exact far_iff HG.out hs HR.out hk2 HMIN.out hil hy
        rw [← hlf] at hn2 hn3
        have HSN := Lib.hid (range_snoc (fun j => (curD (rowM L) (exM (rowM L) s) k s j : Int)) i)
        have hki : k - i = lf + 1 := by omega
        have HLF : Hid (lf = k - (i + 1)) := (by show _ = _; omega)
        rw [hki]
        obtain ⟨x, hx⟩ : ∃ x, x = curD (rowM L) (exM (rowM L) s) k s i := ⟨_, rfl⟩
        obtain ⟨z, hzz⟩ : ∃ z, z = curD (rowM L) (exM (rowM L) s) k s (i + 1) := ⟨_, rfl⟩
        rw [← hx] at hcn hn1 hn3 HFI HSN ⊢
        rw [← hzz] at hn1 hn2 hn3
        have HZZ := Lib.hid hzz
        have HN1 := Lib.hid hn1
        have HN2 := Lib.hid hn2
        have HN3 := Lib.hid hn3
        have hlen : ((List.range i).map (fun j => (curD (rowM L) (exM (rowM L) s) k s j : Int))).length ≤ 33 := by simp; omega
        obtain ⟨Y, hY⟩ : ∃ Y, Y = (List.range i).map (fun j => (curD (rowM L) (exM (rowM L) s) k s j : Int)) := ⟨_, rfl⟩
        rw [← hY] at HO HSN hlen
        have hw1 : IntKind.i64.wrap (((lf + 1 : Nat) : Int) - 1) = (lf : Int) := by rw [show ((lf + 1 : Nat) : Int) - 1 = (lf : Int) from by omega]; exact IntWalk.i64_in _ (by omega)
        have hw2 : IntKind.i64.wrap (lf : Int) = (lf : Int) := IntWalk.i64_in _ (by omega)
        have hw3 : wrap64 (lf : Int) = (lf : Int) := by unfold wrap64; omega
        clear hx hzz hn1 hn2 hn3 hY hki hlf
        go_wp2_with (at_builtin; refine wpList_append_own _ rfl (.tmp 23) (.tmp 25) 28 rfl w2.heap.size 2 i0 (.int .i64 0) 1 8 Tryd.underlying28 hi hz0 hz1 hz2 rfl (by decide) _ _ _ rfl (HO.out.owns.alloc _) ⟨wr.heap.size, 0, none⟩ 1 1 [.int .i64 (x : Int)] rfl rfl ?d1 ?d2 ?d3 ?d4 ?d5 ?_)
        case d1 =>
          intro j u hj
          match j, hj with
          | 0, hj => simp at hj; subst hj; simp [Addr.add]
        case d2 => intro u hu; simp at hu; subst hu; rfl
        case d3 => first | (unfold maxLen; omega) | (simp; unfold maxLen; omega)
        case d4 => first | omega | (simp; omega)
        case d5 => first | omega | (simp; omega)
        intro v4 w4 hown4 hgrow4 _
        have hb4 : Below w2.heap.size w2 w4 := (HB.out.alloc hzr _).grown hgrow4 (by simp; omega) (fun j hj => (HO.out.lt j hj).1)
        have HO4 : Hid (OwnRow 2 w4 w2.heap.size v4 (Y ++ [(x : Int)])) := OwnRow.of_ownsRow (n := Y.length + 1) (by simpa using hown4) (by simp; unfold maxLen; omega) (fun y hy => by
          rcases List.mem_append.1 hy with hy | hy
          · exact HO.out.1 y hy
          · simp at hy; subst hy; unfold I64; omega)
        have HB4 := Lib.hid hb4
        clear hown4 hgrow4 hb4 HO HB
        go_wp2_with fail
        obtain ⟨qz, hqz, hqe⟩ := (hasB_iff _ _).1 (show hasB (nthR L x) (z : Int) = true from HN1.out)
        have HQE := Lib.hid hqe
        have hB1 : Below W1.heap.size W1 w4 := HB2.out.trans (HB4.out.mono hs2)
        have hkb := KB.out _ hB1
        obtain ⟨hck, hrow⟩ := HC.out _ hB1 x hcn
        obtain ⟨b1, o1, c1, e1, m1, m2, hcr⟩ := hrow.pos (by omega)
        simp only [Value.slice.injEq, true_and] at e1
        obtain ⟨eA, eC⟩ := e1
        rw [eA, eC] at hck
        have HCR := Lib.hid hcr
        have HSET := Lib.hid (HG.out.2.1 x hcn).1
        have hrl : (nthR L x).length ≤ 16 := by have := HSET.out.len (by omega); omega
        have HFC : Hid (∀ u, u < 2 * L.length → w4.cell? ⟨gf, u, none⟩ = some (.int .i64 (dOf (twA (nearB L)) (allS (2 * L.length)) (2 * s) u))) := HF.out _ HB4.out
        clear hqe hB1 hrow hcr eA eC hw1 hw2 hw3
        go_loopw [8, 9] (fun vv kv wr => ∃ q : Nat, q ≤ (nthR L x).length ∧ vv = .int .i64 (x : Int) ∧ kv = .int .i64 q ∧ (∀ q', q' < q → ¬ Wk (nearB L) (allS L.length) s lf (nth (nthR L x) q').toNat) ∧ wr = w4) (fun _ kv _ => (nthR L x).length - (intOf kv).toNat)
        case atStart => exact ⟨0, Nat.zero_le _, rfl, rfl, fun q' hq' => absurd hq' (by omega), rfl⟩
        case round =>
          obtain ⟨q, hq, rfl, rfl, hnot, rfl⟩ := hrel
          have HNOT := Lib.hid hnot
          clear hnot
          have hql : q < (nthR L x).length := by
            refine Nat.lt_of_not_le fun hle => HNOT.out qz (by omega) ?_
            rw [HQE.out, Int.toNat_natCast]; exact HN2.out
          have hst := HSET.out q hql
          obtain ⟨y, hy⟩ : ∃ y : Nat, nth (nthR L x) q = (y : Int) := ⟨(nth (nthR L x) q).toNat, by have := hst.1; omega⟩
          have hyn : y < L.length := by have := hst.2.1; omega
          have hcq := HCR.out q hql
          rw [hy] at hcq
          have hnear : nearB L x y = true := by show hasB _ _ = true; rw [hasB_iff]; exact ⟨q, hql, hy⟩
          have HIFF := Lib.hid (HFI.out y hnear)
          obtain ⟨r, hr⟩ : ∃ r, r = lf % 2 := ⟨_, rfl⟩
          rw [← hr] at HIFF
          obtain ⟨t, ht⟩ : ∃ t, t = 2 * y + r := ⟨_, rfl⟩
          have hfc := HFC.out t (by omega)
          rw [← ht] at HIFF
          have htN : t < N := by have := HN.out; omega
          have ha1 : IntKind.i64.wrap (2 * (y : Int)) = 2 * (y : Int) := IntWalk.i64_in _ (by omega)
          have hr1 : Int.tmod (lf : Int) 2 = (r : Int) := by rw [Int.tmod_eq_emod_of_nonneg (by omega)]; omega
          have hr3 : ((lf : Int) % 2) = (r : Int) := by omega
          have ha2 : IntKind.i64.wrap (2 * (y : Int) + (r : Int)) = (t : Int) := by rw [show 2 * (y : Int) + (r : Int) = (t : Int) from by omega]; exact IntWalk.i64_in _ (by omega)
          obtain ⟨D, hD⟩ : ∃ D, D = dOf (twA (nearB L)) (allS (2 * L.length)) (2 * s) t := ⟨_, rfl⟩
          rw [← hD] at hfc HIFF
          have HY := Lib.hid hy
          clear hst hnear hy hr ht hD
          by_cases hwk : Wk (nearB L) (allS L.length) s lf y
          · have hDe := HIFF.out.2 hwk
            subst hDe
            have HYZ : Hid (y = z) := by
              show y = z
              have h1 : ¬ y < z := fun hlt => HN3.out y hlt (by show hasB _ _ = true; rw [hasB_iff]; exact ⟨q, hql, HY.out⟩) hwk
              have h2 : q ≤ qz := Nat.le_of_not_lt fun hlt => HNOT.out qz hlt (by rw [HQE.out, Int.toNat_natCast]; exact HN2.out)
              have h3 := set_mono HSET.out qz h2 hqz
              rw [HY.out, HQE.out] at h3
              omega
            clear hwk HIFF HNOT HSET HQE HN3 HN2 HFI HFC HCR
            go_wp2
            go_roundw
            case rel => exact ⟨i + 1, by omega, by rw [← HLF.out], by rw [HYZ.out, HZZ.out], by rw [HSN.out]; exact HO4.out, HB4.out⟩
            case measure => first | (simp [intOf]; done) | (simp [intOf]; omega)
          · have hne : (D == (lf : Int)) = false := by rw [beq_eq_false_iff_ne]; exact fun e => hwk (HIFF.out.1 e)
            have HNX : Hid (∀ q', q' < q + 1 → ¬ Wk (nearB L) (allS L.length) s lf (nth (nthR L x) q').toNat) := fun q' hq' => by
              rcases Nat.lt_succ_iff_lt_or_eq.1 hq' with h' | h'
              · exact HNOT.out q' h'
              · subst h'; rw [HY.out, Int.toNat_natCast]; exact hwk
            clear hwk
            go_wp2
            go_roundw
            case rel => exact ⟨q + 1, by omega, rfl, by go_num, HNX.out, by first | trivial | rfl⟩
            case measure => simp [intOf]; omega
      · obtain rfl : i = k := by omega
        obtain ⟨ab, cb, eb⟩ := HO.out.row.slice
        subst eb
        go_wp2
        go_ret
        exact ⟨_, HX.out, _, _, _, rfl, by rw [HRG.out]; exact HO.out.mono (by omega), HA.out.trans ((HB2.out.trans (HB.out.mono hs2)).mono hsl)⟩
  · obtain ⟨D, hDD⟩ : ∃ D, D = dOf (twA (nearB L)) (allS (2 * L.length)) (2 * s) (2 * s + 1) := ⟨_, rfl⟩
    rw [← hDD] at hf1 hD
    have HX : Hid (OddAt L s []) := .inr ⟨hno, rfl⟩
    clear hDD hno
    go_wp2_with fail
    refine wp_loop_rounds 1 ?_
    rw [rounds_succ]
    go_wp2
    go_ret
    exact ⟨_, HX.out, _, _, _, rfl, HO3.out.mono (by omega), HA.out.trans ((HB2.out.trans (HBZ.out.mono hs2)).mono hsl)⟩

end Go.Proofs.YtnjkhiheapmlmaaDoor

/- Walks: OddLoop, of the model. -/
namespace Go.Proofs.YtnjkhiheapmlmaaDoor
open Go.RowKit

/-- X is the best odd round of the vertices below s. -/
def BestO (L : List (List Int)) (s : Nat) (X : List Int) : Prop :=
  (X = [] ∧ ∀ x, x < s → ∀ j, j % 2 = 1 → ¬ Round L x j) ∨ (∃ k v, k % 2 = 1 ∧ v < s ∧ v < L.length ∧ Round L v k ∧ (∀ j x, x < s → j < k → j % 2 = 1 → ¬ Round L x j) ∧ (∀ x, x < v → ¬ Round L x k) ∧ X = rdN (rowM L) v k)
section
variable {L : List (List Int)} {s : Nat} {X Y : List Int}
theorem rd_ne (hG : GraphP L) {v k : Nat} (hv : v < L.length) (hk : k % 2 = 1) (h : Round L v k) : (rdN (rowM L) v k).length = k ∧ rdN (rowM L) v k ≠ [] ∧ nth (rdN (rowM L) v k) 0 = (v : Int) := by
  have hb := (round_bit hG hv).2 h
  have hl := rdN_len hb
  refine ⟨hl, fun e => by rw [e] at hl; simp at hl; omega, ?_⟩
  rw [rdN_range hb, nth_eq (by simp; omega)]
  simp
  rfl
theorem best_next (hG : GraphP L) (hs : s < L.length) (hX : BestO L s X) (hY : OddAt L s Y) : BestO L (s + 1) (pickB X Y) := by
  have lt2 : ∀ x, x < s + 1 → x < s ∨ x = s := fun x hx => Nat.lt_succ_iff_lt_or_eq.1 hx
  rcases hY with ⟨k', k2', hr', hm', rfl⟩ | ⟨hno, rfl⟩
  · obtain ⟨hl', hne', _⟩ := rd_ne hG hs k2' hr'
    rcases hX with ⟨rfl, hno⟩ | ⟨k, v, k2, hv, hvn, hr, hm, hf, rfl⟩
    · refine .inr ⟨k', s, k2', by omega, hs, hr', fun j x hx hj hj2 => ?_, fun x hx => hno x hx k' k2', ?_⟩
      · rcases lt2 x hx with h | rfl
        · exact hno x h j hj2
        · exact hm' j hj hj2
      · unfold pickB; rw [if_pos ⟨hne', .inl rfl⟩]
    · obtain ⟨hl, hne, _⟩ := rd_ne hG hvn k2 hr
      by_cases hlt : k' < k
      · refine .inr ⟨k', s, k2', by omega, hs, hr', fun j x hx hj hj2 => ?_, fun x hx => hm k' x hx hlt k2', ?_⟩
        · rcases lt2 x hx with h | rfl
          · exact hm j x h (by omega) hj2
          · exact hm' j hj hj2
        · unfold pickB; rw [if_pos ⟨hne', .inr (by rw [hl, hl']; exact hlt)⟩]
      · refine .inr ⟨k, v, k2, by omega, hvn, hr, fun j x hx hj hj2 => ?_, hf, ?_⟩
        · rcases lt2 x hx with h | rfl
          · exact hm j x h hj hj2
          · exact hm' j (by omega) hj2
        · unfold pickB; rw [if_neg (fun hh => by rcases hh.2 with h | h; exact hne h; rw [hl, hl'] at h; exact hlt h)]
  · have e : pickB X [] = X := by unfold pickB; rw [if_neg (fun hh => hh.1 rfl)]
    rw [e]
    rcases hX with ⟨rfl, hno'⟩ | ⟨k, v, k2, hv, hvn, hr, hm, hf, rfl⟩
    · refine .inl ⟨rfl, fun x hx j hj => ?_⟩
      rcases lt2 x hx with h | rfl
      · exact hno' x h j hj
      · exact hno j hj
    · refine .inr ⟨k, v, k2, by omega, hvn, hr, fun j x hx hj hj2 => ?_, hf, rfl⟩
      rcases lt2 x hx with h | rfl
      · exact hm j x h hj hj2
      · exact hno j hj2
theorem best_end (hX : BestO L L.length X) : OddP L X := by
  rcases hX with ⟨rfl, hno⟩ | ⟨k, v, k2, hv, hvn, hr, hm, hf, rfl⟩
  · exact .inr ⟨fun j x hj hr => hno x (round_in hr) j hj hr, rfl⟩
  · exact .inl ⟨k, v, k2, hvn, hr, fun j x hj hj2 hr' => hm j x (round_in hr') hj hj2 hr', hf, rfl⟩
theorem best_lex (hG : GraphP L) (hs : s < L.length) (hX : BestO L s X) (hY : OddAt L s Y) (hX0 : X ≠ []) (hY0 : Y ≠ []) : Y.length = X.length → ∃ i, i < Y.length ∧ (∀ j, j < i → nth Y j = nth X j) ∧ nth X i < nth Y i := by
  intro _
  rcases hY with ⟨k', k2', hr', hm', rfl⟩ | ⟨_, rfl⟩
  · rcases hX with ⟨rfl, _⟩ | ⟨k, v, k2, hv, hvn, hr, hm, hf, rfl⟩
    · exact absurd rfl hX0
    · obtain ⟨hl', hne', h0'⟩ := rd_ne hG hs k2' hr'
      obtain ⟨hl, hne, h0⟩ := rd_ne hG hvn k2 hr
      exact ⟨0, by rw [hl']; omega, fun j hj => absurd hj (by omega), by rw [h0, h0']; omega⟩
  · exact absurd rfl hY0
theorem best_small (hX : BestO L s X) (hG : GraphP L) : X.length ≤ 64 := by
  rcases hX with ⟨rfl, _⟩ | ⟨k, v, k2, hv, hvn, hr, hm, hf, rfl⟩
  · simp
  · rw [(rd_ne hG hvn k2 hr).1]
    rcases far_odd (L := L) hvn with ⟨q, q2, hq, hqm, hD⟩ | ⟨hno, _⟩
    · have hle : k ≤ q := Nat.le_of_not_lt fun hlt => hm q v hv hlt q2 hq
      have := dOf_lt (A := twA (nearB L)) (S := allS (2 * L.length)) (v := 2 * v) (n := 2 * L.length) (fun u hu => (allS_iff _ _).1 hu) (2 * v + 1)
      have := hG.1
      omega
    · exact absurd hr (hno k k2)
theorem oddAt_small (hs : s < L.length) (hY : OddAt L s Y) (hG : GraphP L) : Y.length ≤ 64 := by
  rcases hY with ⟨k, k2, hr, hm, rfl⟩ | ⟨_, rfl⟩
  · rw [(rd_ne hG hs k2 hr).1]
    rcases far_odd (L := L) hs with ⟨q, q2, hq, hqm, hD⟩ | ⟨hno, _⟩
    · have hle : k ≤ q := Nat.le_of_not_lt fun hlt => hm q hlt q2 hq
      have := dOf_lt (A := twA (nearB L)) (S := allS (2 * L.length)) (v := 2 * s) (n := 2 * L.length) (fun u hu => (allS_iff _ _).1 hu) (2 * s + 1)
      have := hG.1
      omega
    · exact absurd hr (hno k k2)
  · simp
end

set_option maxHeartbeats 8000000 in
set_option maxRecDepth 100000 in
theorem specOddLoop_any (v : Value) (L : List (List Int)) (w : World) (h : GridAt w v L) : Calls Tryd.prog 11 #[.agg #[v]] w (GaveRow w (olL L)) := by
  obtain ⟨a0, c0, rfl⟩ := h.slice
  have kbA : ((w.alloc (.cells #[.slice a0 L.length c0] 26)).alloc (.cells #[] 2)).cell? ⟨w.heap.size, 0, none⟩ = some (.slice a0 L.length c0) := by go_simp
  obtain ⟨Wz, hWz⟩ : ∃ Wz, (w.alloc (.cells #[.slice a0 L.length c0] 26)).alloc (.cells #[] 2) = Wz := ⟨_, rfl⟩
  have ha : Below w.heap.size w Wz := by rw [← hWz]; exact ((Below.refl _ _).alloc (Nat.le_refl _) _).alloc (by simp) _
  rw [hWz] at kbA
  have HOz : Hid (OwnRow 2 Wz w.heap.size (.slice (some ⟨w.heap.size + 1, 0, none⟩) 0 0) []) := by
    have h1 := World.ownsRow_lit (w.alloc (.cells #[.slice a0 L.length c0] 26)) #[] (e := 2) (size := 1) 0 (base := w.heap.size) (by simp) (Nat.zero_le _) rfl
    rw [World.size_alloc, hWz] at h1
    exact OwnRow.of_ownsRow (n := 0) (xs := []) h1 (Nat.zero_le _) (fun x hx => absurd hx (by simp))
  have HWZ := Lib.hid hWz
  have HA := Lib.hid ha
  have KB : Hid (∀ w', Below Wz.heap.size Wz w' → w'.cell? ⟨w.heap.size, 0, none⟩ = some (.slice a0 L.length c0)) := fun w' hb => cell_keep hb kbA
  have GK : Hid (∀ w', Below Wz.heap.size Wz w' → GridAt w' (.slice a0 L.length c0) L) := fun w' hb => (h.keep ha).keep hb
  have hwz : w.heap.size ≤ Wz.heap.size := ha.size
  clear ha h hWz kbA
  go_enter Tryd.func11, Tryd.ntmps11
  go_wp2_with fail
  rw [HWZ.out]
  by_cases hG : GraphP L
  · have hz := hG.1
    have HG := Lib.hid hG
    clear hG
    go_loopw [3, 4] (fun bv iv wr => ∃ (s : Nat) (X : List Int), s ≤ L.length ∧ iv = .int .i64 s ∧ BestO L s X ∧ OwnRow 2 wr w.heap.size bv X ∧ Below Wz.heap.size Wz wr) (fun _ iv _ => L.length - (intOf iv).toNat)
    case atStart => exact ⟨0, [], Nat.zero_le _, rfl, .inl ⟨rfl, fun x hx => absurd hx (by omega)⟩, HOz.out, Below.refl _ _⟩
    case round =>
      clear HOz
      obtain ⟨s, X, hs, rfl, hbo, ho, hb⟩ := hrel
      have kb := KB.out _ hb
      have HBO := Lib.hid hbo
      have HO := Lib.hid ho
      have HB := Lib.hid hb
      have hx64 := best_small hbo HG.out
      clear hbo ho hb
      go_wp2_with fail
      refine (l1Size_any _ L _ (GK.out _ HB.out)).mono ?_
      rintro e w2 ⟨rfl, hb2⟩
      have HB2 : Hid (Below Wz.heap.size Wz w2) := HB.out.trans (hb2.mono HB.out.size)
      have kb2 := KB.out _ HB2.out
      have HO2 := Lib.hid (HO.out.keep hb2)
      clear hb2 kb HO HB
      by_cases hsl : s < L.length
      · go_wp2_with fail
        refine (specGraphOk_any _ L _ (GK.out _ HB2.out)).mono ?_
        rintro e w3 ⟨rfl, hb3⟩
        have HB3 : Hid (Below Wz.heap.size Wz w3) := HB2.out.trans (hb3.mono HB2.out.size)
        have kb3 := KB.out _ HB3.out
        have HO3 := Lib.hid (HO2.out.keep hb3)
        rw [decide_eq_true HG.out]
        clear hb3 kb2 HO2 HB2
        go_wp2_with fail
        refine (l3Odd_any _ L s _ (GK.out _ HB3.out) HG.out hsl).mono ?_
        rintro e w4 ⟨Y, hY, n4, a4, c4, rfl, ho4, hb4⟩
        have HB4 : Hid (Below Wz.heap.size Wz w4) := HB3.out.trans (hb4.mono HB3.out.size)
        have HO4 := Lib.hid (HO3.out.keep hb4)
        have hzw : w.heap.size ≤ w3.heap.size := Nat.le_trans hwz HB3.out.size
        have HY4 := Lib.hid (ho4.mono hzw)
        have HNX := Lib.hid (best_next HG.out hsl HBO.out hY)
        have hy64 := oddAt_small hsl hY HG.out
        obtain ⟨a4', c4', e4⟩ := ho4.row.slice
        simp only [Value.slice.injEq] at e4
        obtain ⟨rfl, rfl, rfl⟩ := e4
        obtain ⟨ab, cb, eb⟩ := HO4.out.row.slice
        subst eb
        have HLX : Hid (X ≠ [] → Y ≠ [] → Y.length = X.length → ∃ i, i < Y.length ∧ (∀ j, j < i → nth Y j = nth X j) ∧ nth X i < nth Y i) := best_lex HG.out hsl HBO.out hY
        clear ho4 hb4 kb3 HO3 HB3 hY HBO
        by_cases hy0 : Y = []
        · have HPE : Hid (pickB X Y = X) := by show _ = _; unfold pickB; rw [if_neg (fun hh => hh.1 hy0)]
          have hl0 : Y.length = 0 := by rw [hy0]; rfl
          rw [hl0]
          clear hy0 hl0
          go_wp2
          go_roundw
          case rel => exact ⟨s + 1, X, by omega, by go_num, by have := HNX.out; rwa [HPE.out] at this, HO4.out, HB4.out⟩
          case measure => simp [intOf]; omega
        · have hyp : 0 < Y.length := List.length_pos_iff.2 hy0
          have HY0 := Lib.hid hy0
          clear hy0
          by_cases hx0 : X = []
          · have HPE : Hid (pickB X Y = Y) := by show _ = _; unfold pickB; rw [if_pos ⟨HY0.out, .inl hx0⟩]
            have hl0 : X.length = 0 := by rw [hx0]; rfl
            rw [hl0]
            clear hx0 hl0
            go_wp2
            go_roundw
            case rel => exact ⟨s + 1, Y, by omega, by go_num, by have := HNX.out; rwa [HPE.out] at this, HY4.out, HB4.out⟩
            case measure => simp [intOf]; omega
          · have hlp : 0 < X.length := List.length_pos_iff.2 hx0
            have hne0 : ((X.length : Int) == 0) = false := by rw [beq_eq_false_iff_ne]; omega
            have HX0 := Lib.hid hx0
            clear hx0
            go_wp2_with fail
            refine (l1Less_any _ _ _ _ _ HY4.out.row HO4.out.row (HLX.out HX0.out HY0.out)).mono ?_
            rintro e w10 ⟨rfl, hd10⟩
            have HY10 := Lib.hid (HY4.out.keep (hd10.below _))
            have HX10 := Lib.hid (HO4.out.keep (hd10.below _))
            have HB10 : Hid (Below Wz.heap.size Wz w10) := HB4.out.trans (hd10.below _)
            clear hd10 HY4 HO4 HB4 hne0
            by_cases hless : Y.length < X.length
            · have HPE : Hid (pickB X Y = Y) := by show _ = _; unfold pickB; rw [if_pos ⟨HY0.out, .inr hless⟩]
              rw [decide_eq_true hless]
              go_wp2
              go_roundw
              case rel => exact ⟨s + 1, Y, by omega, by go_num, by have := HNX.out; rwa [HPE.out] at this, HY10.out, HB10.out⟩
              case measure => simp [intOf]; omega
            · have HPE : Hid (pickB X Y = X) := by show _ = _; unfold pickB; rw [if_neg (fun hh => by rcases hh.2 with h2 | h2; exact HX0.out h2; exact hless h2)]
              rw [decide_eq_false hless]
              go_wp2
              go_roundw
              case rel => exact ⟨s + 1, X, by omega, by go_num, by have := HNX.out; rwa [HPE.out] at this, HX10.out, HB10.out⟩
              case measure => simp [intOf]; omega
      · obtain rfl : s = L.length := by omega
        have HE : Hid (olL L = X) := olL_eq HG.out (best_end HBO.out)
        obtain ⟨ab, cb, eb⟩ := HO2.out.row.slice
        subst eb
        go_wp2
        go_ret
        rw [HE.out]
        exact ⟨_, _, _, rfl, HO2.out, HA.out.trans (HB2.out.mono hwz)⟩
  · have HE : Hid (olL L = []) := olL_no hG
    have HGF := Lib.hid hG
    clear hG
    refine wp_loop_rounds 1 ?_
    rw [rounds_succ]
    have kb := KB.out _ (Below.refl _ _)
    go_wp2_with fail
    refine (l1Size_any _ L _ (GK.out _ (Below.refl _ _))).mono ?_
    rintro e w2 ⟨rfl, hb2⟩
    have HB2 := Lib.hid hb2
    have kb2 := KB.out _ hb2
    have HO2 := Lib.hid (HOz.out.keep hb2)
    clear hb2 kb HOz
    by_cases hl0 : 0 < L.length
    · go_wp2_with fail
      refine (specGraphOk_any _ L _ (GK.out _ HB2.out)).mono ?_
      rintro e w3 ⟨rfl, hb3⟩
      have HB3 : Hid (Below Wz.heap.size Wz w3) := HB2.out.trans (hb3.mono HB2.out.size)
      have HO3 := Lib.hid (HO2.out.keep hb3)
      rw [decide_eq_false HGF.out]
      clear hb3 kb2
      go_wp2
      go_ret
      rw [HE.out]
      exact ⟨_, _, _, rfl, HO3.out, HA.out.trans (HB3.out.mono hwz)⟩
    · have hl0' : L.length = 0 := by omega
      go_wp2
      go_ret
      rw [HE.out]
      exact ⟨_, _, _, rfl, HO2.out, HA.out.trans (HB2.out.mono hwz)⟩

end Go.Proofs.YtnjkhiheapmlmaaDoor
