/- The texts EL4, EL5, joined. -/
import Derived.Test.YtmfolclpddoplaaQEL1
import Derived.Test.YtmfolclpddoplaaQF6
import Derived.Test.YtmfolclpddoplaaQLater
import Derived.Test.YtmfolclpddoplaaQN3
import Derived.Test.YtmfolclpddoplaaQM4
import Derived.Test.YtmfolclpddoplaaQD5
import Derived.Deep.RegionHeld3

/- Walks: of each vertex its later neighbours, of the model. -/
namespace Go.Proofs.Ytmfolclpddoplaa
open Go.RowKit

/-- The later neighbours of those that have gone in the first k rounds. -/
def partA (A : Nat → Nat → Bool) (xs : List Int) (k i j : Nat) : Bool := hasB (xs.take k) (i : Int) && laterA A xs i j
theorem adjL_set {n : Nat} {R R' : Nat → Nat → Bool} {u : Nat} (h : ∀ i, i < n → i ≠ u → ∀ j, j < 16 → R' i j = R i j) : (adjL n R).set u (listM (pm (R' u))) = adjL n R' := by
  apply nthR_ext
  · rw [List.length_set, adjL_len, adjL_len]
  · intro i hi
    rw [List.length_set, adjL_len] at hi
    rw [adjL_nth _ hi]
    by_cases e : u = i
    · subst e
      unfold nthR
      rw [List.getD_eq_getElem?_getD, List.getElem?_set_self (by rw [adjL_len]; exact hi)]; rfl
    · rw [nthR_set_ne _ e, adjL_nth _ hi, pm_congr (fun j hj => h i hi (fun e2 => e e2.symm) j hj)]
theorem part_zero (n : Nat) (A : Nat → Nat → Bool) (xs : List Int) (M : Nat → Nat) : partL n M 0 = adjL n (partA A xs 0) := by
  apply nthR_ext
  · rw [partL_len, adjL_len]
  · intro i hi
    rw [partL_len] at hi
    rw [partL_nth M 0 hi, if_neg (by omega), adjL_nth _ hi]
    have : partA A xs 0 i = fun _ => false := by
      funext j
      unfold partA
      have : hasB (xs.take 0) (i : Int) = false := hasB_false.2 (by simp)
      rw [this]; rfl
    rw [this, pm_false, listM_zero]
theorem part_next {A : Nat → Nat → Bool} {n : Nat} {xs : List Int} {k u : Nat} (hk : k < xs.length) (e : nth xs k = (u : Int)) (hO : OrdP xs n) :
    (adjL n (partA A xs k)).set u (listM (pm (laterA A xs u))) = adjL n (partA A xs (k + 1)) := by
  have hu : partA A xs (k + 1) u = laterA A xs u := by
    funext j
    unfold partA
    have : hasB (xs.take (k + 1)) (u : Int) = true := (hasB_mem _ _).2 (by rw [take_snoc hk, e]; simp)
    rw [this]; rfl
  rw [← hu]
  refine adjL_set (fun i _ hi j _ => ?_)
  unfold partA
  rw [take_snoc hk, e, hasB_snoc]
  have : ((i : Int) == (u : Int)) = false := by rw [beq_eq_false_iff_ne]; omega
  rw [this, Bool.or_false]
theorem laterPart_all {A : Nat → Nat → Bool} {n : Nat} {xs : List Int} (hO : OrdP xs n) : adjL n (partA A xs xs.length) = adjL n (laterA A xs) := by
  refine adjL_congr (fun i hi j _ => ?_)
  unfold partA
  rw [List.take_length, (hasB_mem _ _).2 (ordP_mem hO hi)]; rfl

/-- At work: the filled graph is done, who has gone, the rows so far. -/
structure LaterW (wF : World) (gb gr n : Nat) (R : Nat → Nat → Bool) (p : Nat → Bool) (w : World) : Prop where
  gone : w.rowIs gb 4 n (fun i => .bool (p i))
  rows : OwnGrid 2 31 w gr (.slice (some ⟨gr, 0, none⟩) n n) (adjL n R)
  bel : Below wF.heap.size wF w
theorem LaterW.keep {wF : World} {gb gr n : Nat} {R : Nat → Nat → Bool} {p : Nat → Bool} {w w' : World} (h : LaterW wF gb gr n R p w) (hb : Below w.heap.size w w') : LaterW wF gb gr n R p w' :=
  ⟨rowIs_below h.gone hb, h.rows.keep hb, h.bel.trans (hb.mono h.bel.size)⟩
theorem LaterW.flag {wF : World} {gb gr n : Nat} {R : Nat → Nat → Bool} {p : Nat → Bool} {w : World} (h : LaterW wF gb gr n R p w) (v : Nat) (hg : gb < gr) (hF : wF.heap.size ≤ gb) : LaterW wF gb gr n R (fun i => if i = v then true else p i) (w.setCell ⟨gb, v, none⟩ (.bool true)) := by
  refine ⟨(h.gone.set v (.bool true)).congr (fun i _ => ?_), h.rows.setBelow hg _, h.bel.setCell hF _⟩
  by_cases e : i = v
  · rw [if_pos e, if_pos e]
  · rw [if_neg e, if_neg e]
theorem LaterW.congr {wF : World} {gb gr n : Nat} {R R' : Nat → Nat → Bool} {p p' : Nat → Bool} {w : World} (h : LaterW wF gb gr n R p w) (e : adjL n R = adjL n R') (e2 : ∀ i, i < n → p i = p' i) : LaterW wF gb gr n R' p' w :=
  ⟨h.gone.congr (fun i hi => by rw [e2 i hi]), by rw [← e]; exact h.rows, h.bel⟩

theorem later_put {wF wd w8 : World} {gb gr n u m : Nat} {R R' : Nat → Nat → Bool} {p : Nat → Bool} {q : Nat → Bool} {a : Option Addr} {c : Nat} (h : LaterW wF gb gr n R p wd) (h8 : LaterW wF gb gr n R p w8) (hb : Below wd.heap.size wd w8) (ho : OwnRow 2 w8 wd.heap.size (.slice a m c) (listM (pm q)))
    (e : (adjL n R).set u (listM (pm q)) = adjL n R') (hu : u < n) (hz : gr ≤ wd.heap.size) (hz2 : gb < gr ∧ wF.heap.size ≤ gr) : LaterW wF gb gr n R' p (w8.setCell ⟨gr, u, none⟩ (.slice a m c)) := by
  have hr := OwnGrid.setRow (w := wd) (w' := w8) (by decide) h.rows hb (by rw [adjL_len]; exact hu) (ho.mono hz) (fun k hk => Or.inl (ho.lt k hk).1)
  rw [e] at hr
  exact ⟨h8.gone.setOther (a := ⟨gr, u, none⟩) (by simp; omega) _, hr, h8.bel.setCell hz2.2 _⟩

end Go.Proofs.Ytmfolclpddoplaa

/- Walks: FillOf, LaterOf, OrderWidth, FillMany, PerfectIn of the model. -/
namespace Go.Proofs.Ytmfolclpddoplaa
open Go.RowKit

/-- What they answer. -/
def fillL (L : List (List Int)) (xs : List Int) : List (List Int) := if orderB L xs = true then adjL L.length (fillX (adjB L) xs) else []
def laterL (L : List (List Int)) (xs : List Int) : List (List Int) := if orderB L xs = true then adjL L.length (laterA (adjB L) xs) else []
def widthI (L : List (List Int)) (xs : List Int) : Int := if orderB L xs = true then (widthX (adjB L) xs L.length : Int) else -1
def moreI (L : List (List Int)) (xs : List Int) : Int := if orderB L xs = true then manyN (adjL L.length (fillX (adjB L) xs)) - manyN L else -1
def perfB (L : List (List Int)) (xs : List Int) : Bool := moreI L xs == 0
theorem fillL_no {L : List (List Int)} {xs : List Int} (h : orderB L xs = false) : fillL L xs = [] := by unfold fillL; rw [h]; rfl
theorem laterL_no {L : List (List Int)} {xs : List Int} (h : orderB L xs = false) : laterL L xs = [] := by unfold laterL; rw [h]; rfl
theorem fillL_small (L : List (List Int)) (xs : List Int) : Small (fillL L xs) := by
  unfold fillL
  split
  · rename_i h; exact adjL_small _ _ (orderB_yes h).1.1.2
  · exact ⟨by simp, fun i hi => absurd hi (by simp)⟩
theorem laterL_small (L : List (List Int)) (xs : List Int) : Small (laterL L xs) := by
  unfold laterL
  split
  · rename_i h; exact adjL_small _ _ (orderB_yes h).1.1.2
  · exact ⟨by simp, fun i hi => absurd hi (by simp)⟩
theorem many_le {L : List (List Int)} : 0 ≤ manyN L ∧ manyN L ≤ 1048576 := by
  have := (edgesL_small L).1
  unfold manyN
  omega

set_option maxHeartbeats 1600000 in
theorem specFillOf_any (v v1 : Value) (L : List (List Int)) (xs : List Int) (w : World) (h : GridAt w v L) (h1 : RowAt w v1 xs) : Calls Try.prog 116 #[.agg #[v], v1] w (GaveGB w (fillL L xs) (orderB L xs)) := by
  obtain ⟨a0, c0, rfl⟩ := h.slice
  have T0 := Lib.hid (Two.start w (.slice a0 L.length c0))
  have HGK : Hid (∀ w', Below w.heap.size w w' → GridAt w' (.slice a0 L.length c0) L) := fun w' hb => h.keep hb
  have HRK : Hid (∀ w', Below w.heap.size w w' → RowAt w' v1 xs) := fun w' hb => h1.keep hb
  clear h h1
  go_enter Try.func116, Try.ntmps116
  go_wp2_with fail
  refine (specOrderOk_any _ _ L xs _ (HGK.out _ T0.out.bel) (HRK.out _ T0.out.bel)).mono ?_
  rintro e w1 ⟨rfl, hb1⟩
  have T1 := Lib.hid (T0.out.keep hb1)
  clear hb1 T0
  by_cases hok : orderB L xs = true
  · obtain ⟨hG, hO, _, _⟩ := orderB_yes hok
    have HI := Lib.hid hok
    have HF : Hid (fillL L xs = adjL L.length (fillX (adjB L) xs)) := by show _ = _; unfold fillL; rw [hok]; rfl
    have HG := Lib.hid hG
    have HO := Lib.hid hO
    have kb1 := T1.out.arg.1
    rw [hok]
    clear hok hG hO
    go_wp2_with fail
    refine (l7Fill_any _ _ L xs _ (HGK.out _ T1.out.bel) (HRK.out _ T1.out.bel) HG.out HO.out).mono ?_
    rintro e w2 ⟨n2, a2, c2, rfl, ho2, hb2⟩
    have T2 := Lib.hid (T1.out.keep hb2)
    have HO2 := Lib.hid ho2
    have kr := T2.out.res.1
    have kf := T2.out.res.2
    clear ho2 hb2 kb1
    go_wp2
    refine bodyPost_ret (v := .tuple #[.agg #[.slice a2 n2 c2], .bool true]) (by simp [results, Try.results116, go_sem, T2.out.q0]) rfl (T2.out.yes (B := w1.heap.size) ?_ T1.out.lt HI.out)
    rw [HF.out]; exact HO2.out
  · have hok' : orderB L xs = false := by simpa using hok
    have HI := Lib.hid hok'
    have kr := T1.out.res.1
    have kf := T1.out.res.2
    rw [hok']
    clear hok hok'
    go_wp2
    exact bodyPost_ret (v := .tuple #[.agg #[.slice none 0 0], .bool false]) (by simp [results, Try.results116, go_sem, T1.out.q0]) rfl (T1.out.no (fillL_no HI.out) HI.out)

theorem l1Max_any (x y : Int) (w : World) : Calls Try.prog 67 #[.int .i64 x, .int .i64 y] w fun e w' => e = .returned (.int .i64 (max x y)) ∧ w = w' := by
  by_cases h : x > y
  · have HM : Hid (max x y = x) := by show _ = _; omega
    go_enter Try.func67, Try.ntmps67
    go_wp2
    go_ret
    exact ⟨ret_int HM.out.symm, rfl⟩
  · have HM : Hid (max x y = y) := by show _ = _; omega
    go_enter Try.func67, Try.ntmps67
    go_wp2
    go_ret
    exact ⟨ret_int HM.out.symm, rfl⟩

theorem listM_szB (p : Nat → Bool) : (listM (pm p)).length = szB p := by
  have h := sum_listM (pm p) (fun _ => true)
  have e : sumTo (fun _ => if true = true then 1 else 0) (listM (pm p)).length = (listM (pm p)).length := by
    generalize (listM (pm p)).length = n
    induction n with
    | zero => rfl
    | succ n ih => rw [sumTo, ih]; rfl
  rw [e] at h
  rw [← h, szB_sum]
  refine sumTo_congr (fun j hj => ?_)
  rw [pm_bit]; simp [hj]
theorem later_size (A : Nat → Nat → Bool) (n : Nat) {i : Nat} (hi : i < n) : (nthR (adjL n A) i).length = szB (A i) := by
  rw [adjL_nth _ hi, listM_szB]

end Go.Proofs.Ytmfolclpddoplaa
