/- The texts KM1, KM2, joined. -/
import Derived.Test.YtojbaepcflkgeaaQSO1
import Derived.Test.YtojbaepcflkgeaaQGM3
import Derived.Test.YtojbaepcflkgeaaQM7
import Derived.Test.YtojbaepcflkgeaaQCT1
import Derived.Test.YtojbaepcflkgeaaQD5
import Derived.Test.YtojbaepcflkgeaaQGR7
import Derived.Test.YtojbaepcflkgeaaQK2
import Derived.Test.YtojbaepcflkgeaaQS1
import Derived.Test.YtojbaepcflkgeaaQC6

/- Plain facts: what FnMade asks of the graphs that are made. -/
namespace Go.Proofs.Ytojbaepcflkgeaa
open Go.RowKit

/-- Colours that take turns along each edge make two sides. -/
theorem two_sides {L : List (List Int)} (hG : GraphP L) (c : Nat → Nat) (hc : ∀ u v, adjB L u v = true → (c u + c v) % 2 = 1) : soB L = true := by
  have hnear : nearB L = adjB L := (nearM_eq hG).symm
  have hwalk : ∀ {v k u : Nat}, Wk (nearB L) (allS L.length) v k u → (c u + c v + k) % 2 = 0 := by
    intro v k
    induction k with
    | zero => rintro u ⟨rfl, _⟩; omega
    | succ k ih =>
      rintro u ⟨_, x, hx, ha⟩
      have h1 := ih hx
      rw [hnear] at ha
      have h2 := hc x u ha
      omega
  have hsy := nearB_symm hG
  have hside : ∀ u, u < L.length → (sideV L u - (c u : Int) - (c (headN (nearB L) L.length u) : Int)) % 2 = 0 := by
    intro u hu
    obtain ⟨_, hr, _, _⟩ := headN_spec hsy hG.1.2 hu
    obtain ⟨a, ha⟩ := reach_at.1 (hr.symm hsy)
    have h1 := hwalk ha.1
    unfold sideV
    rw [dOf_at ha]
    omega
  refine soB_yes hG (fun u v hu hv ha he => ?_)
  have h1 := hside u hu
  have h2 := hside v hv
  have h3 := hc u v ha
  have hr : Reach (nearB L) (allS L.length) u v := ⟨1, (allS_iff _ _).2 hv, u, ⟨rfl, (allS_iff _ _).2 hu⟩, by rw [hnear]; exact ha⟩
  rw [headN_eq hsy hG.1.2 hr] at h2
  have h4 := sideV_rng L u
  have h5 := sideV_rng L v
  omega

/-- All lie in one part where all are reached from 0. -/
theorem one_part {L : List (List Int)} (hG : GraphP L) (h : ∀ u, u < L.length → 0 < u → adjB L 0 u = true) : (partsL L).length = 1 := by
  have hnear : nearB L = adjB L := (nearM_eq hG).symm
  have hsy := nearB_symm hG
  have hz := hG.1
  have hhead : ∀ u, u < L.length → headN (nearB L) L.length u = 0 := by
    have h0 : headN (nearB L) L.length 0 = 0 := by have := (headN_spec hsy hz.2 (v := 0) (by omega)).1; omega
    intro u hu
    by_cases e : u = 0
    · rw [e]; exact h0
    · rw [headN_eq hsy hz.2 (v := 0) (u := u) ⟨1, (allS_iff _ _).2 hu, 0, ⟨rfl, (allS_iff _ _).2 (by omega)⟩, by rw [hnear]; exact h u hu (by omega)⟩, h0]
  rw [partsL_len hG]
  unfold hdM headsTo
  have key : ∀ k, k ≤ L.length → 1 ≤ k → (List.range k).filter (fun v => headN (nearB L) L.length v == v) = [0] := by
    intro k
    induction k with
    | zero => intro _ h; omega
    | succ k ih =>
      intro hk _
      rw [List.range_succ, List.filter_append]
      by_cases e : k = 0
      · subst e
        simp [hhead 0 (by omega)]
      · rw [ih (by omega) (by omega)]
        have : (headN (nearB L) L.length k == k) = false := by rw [hhead k (by omega), beq_eq_false_iff_ne]; omega
        simp [this]
  rw [key _ (Nat.le_refl _) hz.1]; rfl

def pathG (n : Nat) : List (List Int) := adjL n (symA n pathR)
def loopG (n : Nat) : List (List Int) := adjL n (symA n (loopR n))
def fullG (n : Nat) : List (List Int) := adjL n (symA n fullR)
def sideG (a b : Nat) : List (List Int) := adjL (a + b) (symA (a + b) (sidedR a))
def gridG (a b : Nat) : List (List Int) := adjL (a * b) (symA (a * b) (gridR b))
def wheelG (n : Nat) : List (List Int) := adjL (n + 1) (symA (n + 1) (wheelR n))
def starG (n : Nat) : List (List Int) := adjL (n + 1) (symA (n + 1) starR)

theorem five {p : Nat → Prop} (h3 : p 3) (h4 : p 4) (h5 : p 5) (h6 : p 6) (h7 : p 7) {n : Nat} (h1 : 3 ≤ n) (h2 : n ≤ 7) : p n := by
  have : n = 3 ∨ n = 4 ∨ n = 5 ∨ n = 6 ∨ n = 7 := by omega
  rcases this with rfl | rfl | rfl | rfl | rfl
  · exact h3
  · exact h4
  · exact h5
  · exact h6
  · exact h7
theorem four {p : Nat → Prop} (h1 : p 1) (h2 : p 2) (h3 : p 3) (h4 : p 4) {n : Nat} (hn1 : 1 ≤ n) (hn : n ≤ 4) : p n := by
  have : n = 1 ∨ n = 2 ∨ n = 3 ∨ n = 4 := by omega
  rcases this with rfl | rfl | rfl | rfl
  · exact h1
  · exact h2
  · exact h3
  · exact h4
theorem many_path {n : Nat} (h1 : 3 ≤ n) (h2 : n ≤ 7) : manyN (pathG n) = (n : Int) - 1 := by
  refine five (p := fun n => manyN (pathG n) = (n : Int) - 1) ?_ ?_ ?_ ?_ ?_ h1 h2 <;> decide +kernel
theorem many_loop {n : Nat} (h1 : 3 ≤ n) (h2 : n ≤ 7) : manyN (loopG n) = (n : Int) := by
  refine five (p := fun n => manyN (loopG n) = (n : Int)) ?_ ?_ ?_ ?_ ?_ h1 h2 <;> decide +kernel
theorem many_full {n : Nat} (h1 : 3 ≤ n) (h2 : n ≤ 7) : manyN (fullG n) = (((n : Int) * ((n : Int) - 1)).tdiv 2) := by
  refine five (p := fun n => manyN (fullG n) = (((n : Int) * ((n : Int) - 1)).tdiv 2)) ?_ ?_ ?_ ?_ ?_ h1 h2 <;> decide +kernel
theorem many_wheel {n : Nat} (h1 : 3 ≤ n) (h2 : n ≤ 7) : manyN (wheelG n) = 2 * (n : Int) := by
  refine five (p := fun n => manyN (wheelG n) = 2 * (n : Int)) ?_ ?_ ?_ ?_ ?_ h1 h2 <;> decide +kernel
theorem many_star {n : Nat} (h1 : 3 ≤ n) (h2 : n ≤ 7) : manyN (starG n) = (n : Int) := by
  refine five (p := fun n => manyN (starG n) = (n : Int)) ?_ ?_ ?_ ?_ ?_ h1 h2 <;> decide +kernel
theorem many_side {a b : Nat} (ha1 : 1 ≤ a) (ha : a ≤ 4) (hb1 : 1 ≤ b) (hb : b ≤ 4) : manyN (sideG a b) = (a : Int) * (b : Int) := by
  refine four (p := fun a => manyN (sideG a b) = (a : Int) * (b : Int)) ?_ ?_ ?_ ?_ ha1 ha
  · exact four (p := fun b => manyN (sideG 1 b) = ((1 : Nat) : Int) * (b : Int)) (by decide +kernel) (by decide +kernel) (by decide +kernel) (by decide +kernel) hb1 hb
  · exact four (p := fun b => manyN (sideG 2 b) = ((2 : Nat) : Int) * (b : Int)) (by decide +kernel) (by decide +kernel) (by decide +kernel) (by decide +kernel) hb1 hb
  · exact four (p := fun b => manyN (sideG 3 b) = ((3 : Nat) : Int) * (b : Int)) (by decide +kernel) (by decide +kernel) (by decide +kernel) (by decide +kernel) hb1 hb
  · exact four (p := fun b => manyN (sideG 4 b) = ((4 : Nat) : Int) * (b : Int)) (by decide +kernel) (by decide +kernel) (by decide +kernel) (by decide +kernel) hb1 hb
theorem many_grid {a b : Nat} (ha1 : 1 ≤ a) (ha : a ≤ 4) (hb1 : 1 ≤ b) (hb : b ≤ 4) : manyN (gridG a b) = (a : Int) * ((b : Int) - 1) + (b : Int) * ((a : Int) - 1) := by
  refine four (p := fun a => manyN (gridG a b) = (a : Int) * ((b : Int) - 1) + (b : Int) * ((a : Int) - 1)) ?_ ?_ ?_ ?_ ha1 ha
  · exact four (p := fun b => manyN (gridG 1 b) = ((1 : Nat) : Int) * ((b : Int) - 1) + (b : Int) * (((1 : Nat) : Int) - 1)) (by decide +kernel) (by decide +kernel) (by decide +kernel) (by decide +kernel) hb1 hb
  · exact four (p := fun b => manyN (gridG 2 b) = ((2 : Nat) : Int) * ((b : Int) - 1) + (b : Int) * (((2 : Nat) : Int) - 1)) (by decide +kernel) (by decide +kernel) (by decide +kernel) (by decide +kernel) hb1 hb
  · exact four (p := fun b => manyN (gridG 3 b) = ((3 : Nat) : Int) * ((b : Int) - 1) + (b : Int) * (((3 : Nat) : Int) - 1)) (by decide +kernel) (by decide +kernel) (by decide +kernel) (by decide +kernel) hb1 hb
  · exact four (p := fun b => manyN (gridG 4 b) = ((4 : Nat) : Int) * ((b : Int) - 1) + (b : Int) * (((4 : Nat) : Int) - 1)) (by decide +kernel) (by decide +kernel) (by decide +kernel) (by decide +kernel) hb1 hb
theorem sym_loop {n : Nat} (h1 : 3 ≤ n) (h2 : n ≤ 7) : symN (loopG n) = 2 * (n : Int) := by
  refine five (p := fun n => symN (loopG n) = 2 * (n : Int)) ?_ ?_ ?_ ?_ ?_ h1 h2 <;> decide +kernel
theorem sym_path {n : Nat} (h1 : 3 ≤ n) (h2 : n ≤ 7) : symN (pathG n) = 2 := by
  refine five (p := fun n => symN (pathG n) = 2) ?_ ?_ ?_ ?_ ?_ h1 h2 <;> decide +kernel
theorem cut_wheel {n : Nat} (h1 : 3 ≤ n) (h2 : n ≤ 7) : cutB (wheelG n) (n : Int) = true ∧ cutL (wheelG n) (n : Int) = loopG n := by
  refine five (p := fun n => cutB (wheelG n) (n : Int) = true ∧ cutL (wheelG n) (n : Int) = loopG n) ?_ ?_ ?_ ?_ ?_ h1 h2 <;> decide +kernel
theorem star_graph {n : Nat} (h2 : n ≤ 15) : GraphP (starG n) := symA_graph _ (by omega) (by omega)
theorem star_parts {n : Nat} (h2 : n ≤ 15) : (partsL (starG n)).length = 1 := by
  have hG := star_graph h2
  refine one_part hG (fun u hu h0 => ?_)
  have hl : (starG n).length = n + 1 := adjL_len _ _
  rw [hl] at hu
  unfold starG at hG ⊢
  rw [adjB_adjL hG (by omega) (by omega), symA_lt _ h0 hu]
  rfl
theorem grid_graph {a b : Nat} (h1 : 1 ≤ a * b) (h2 : a * b ≤ 16) : GraphP (gridG a b) := symA_graph _ h1 h2
theorem grid_two {a b : Nat} (hb : 1 ≤ b) (h1 : 1 ≤ a * b) (h2 : a * b ≤ 16) : soB (gridG a b) = true := by
  have hG := grid_graph h1 h2
  have hl : (gridG a b).length = a * b := adjL_len _ _
  have key : ∀ u v, gridR b u v = true → (u / b + u % b + (v / b + v % b)) % 2 = 1 := by
    intro u v h
    unfold gridR at h
    rw [Bool.or_eq_true, Bool.and_eq_true, decide_eq_true_iff, decide_eq_true_iff, Bool.not_eq_true', decide_eq_false_iff_not] at h
    rcases h with h | ⟨h, h3⟩
    · subst h
      rw [Nat.add_div_right u hb, Nat.add_mod_right]
      omega
    · subst h
      have e1 := Nat.div_add_mod u b
      have e2 := Nat.div_add_mod (u + 1) b
      have m1 := Nat.mod_lt u hb
      have m2 := Nat.mod_lt (u + 1) hb
      have hd : (u + 1) / b = u / b := by
        rw [Nat.succ_div]
        rw [if_neg (fun hd => h3 (Nat.mod_eq_zero_of_dvd hd)), Nat.add_zero]
      rw [hd] at e2 ⊢
      generalize b * (u / b) = q at *
      omega
  refine two_sides hG (fun u => u / b + u % b) (fun u v ha => ?_)
  have hr := adjB_range hG ha
  rw [hl] at hr
  unfold gridG at hG ha
  rw [adjB_adjL hG hr.1 (by omega)] at ha
  unfold symA at ha
  by_cases e : u < v
  · rw [if_pos e, Bool.and_eq_true] at ha
    exact key u v ha.2
  · by_cases e2 : v < u
    · rw [if_neg e, if_pos e2, Bool.and_eq_true] at ha
      have := key v u ha.2
      omega
    · rw [if_neg e, if_neg e2] at ha
      cases ha

end Go.Proofs.Ytojbaepcflkgeaa

/- The walk of FnMade. Written by program (tools/gen/madelaw.py). -/
namespace Go.Proofs.Ytojbaepcflkgeaa
open Go.RowKit

theorem gi_one {n lo hi : Int} (h1 : lo ≤ n) (h2 : n ≤ hi) : inB n lo hi = true := inB_iff.2 ⟨h1, h2⟩
theorem same_self2 {L : List (List Int)} (h : GraphP L) : sameB L L = true := by unfold sameB; rw [decide_eq_true h, decide_eq_true rfl]; rfl
theorem own_len {w : World} {B : Nat} {a : Option Addr} {n c : Nat} {L : List (List Int)} (h : OwnGrid 2 35 w B (.slice a n c) L) : n = L.length := by
  obtain ⟨a', c', e⟩ := h.grid.slice
  simp only [Value.slice.injEq] at e
  exact e.2.1

set_option maxHeartbeats 16000000 in
set_option maxRecDepth 100000 in
theorem lawMade (a0 : Option Addr) (n0 c0 : Nat) (w : World) (hb : n0 ≤ 4096 → BytesAt w w.heap.size (.slice a0 n0 c0) n0) :
    Calls Try.prog 3 #[.slice a0 n0 c0] w fun e w' => e = .returned (.bool true) ∧ Below w.heap.size w w' := by
  have HBY := Lib.hid hb
  clear hb
  go_enter Try.func3, Try.ntmps3
  go_wp2_with fail
  refine (big_any _ _ _ _).mono ?_
  rintro e w' ⟨rfl, rfl⟩
  by_cases hbig : (4096 : Int) < (n0 : Int)
  · rw [decide_eq_true hbig]
    go_wp2
    go_ret
    exact ⟨rfl, Below.refl _ _⟩
  rw [decide_eq_false hbig]
  have HBZ : Hid (BytesAt w w.heap.size (.slice a0 n0 c0) n0) := HBY.out (by omega)
  clear HBY hbig
  go_wp2_with fail
  refine (roll_any _ n0 _ _ HBZ.out).mono ?_
  rintro e w1 ⟨rfl, hd1, hb1⟩
  have HD1 := Lib.hid hd1
  have HB1 := Lib.hid hb1
  have HY1 := Lib.hid (HBZ.out.keepB hb1 (Nat.le_refl _))
  clear hd1 hb1
  go_wp2_with fail
  refine (below_any w.heap.size n0 _ 5 _ HD1.out HY1.out (by omega) (by unfold I64; omega)).mono ?_
  rintro e w2 ⟨y1, rfl, hy, hd, ho⟩
  have hy2 := hy.2 (by omega)
  obtain ⟨n, hn⟩ : ∃ n : Nat, 3 + y1 = (n : Int) := ⟨(3 + y1).toNat, by omega⟩
  have Hn1 : Hid (3 ≤ n) := by show _ ≤ _; omega
  have Hn2 : Hid (n ≤ 7) := by show _ ≤ _; omega
  have HD2 := Lib.hid hd
  have HY2 := Lib.hid (ho.bytes HY1.out)
  have HB2 : Hid (Below w.heap.size w w2) := HB1.out.trans ho.below
  clear hy hd ho
  go_wp2_with fail
  refine (below_any w.heap.size n0 _ 4 _ HD2.out HY2.out (by omega) (by unfold I64; omega)).mono ?_
  rintro e w3 ⟨y2, rfl, hy, hd, ho⟩
  have hy2 := hy.2 (by omega)
  obtain ⟨a, ha⟩ : ∃ a : Nat, 1 + y2 = (a : Int) := ⟨(1 + y2).toNat, by omega⟩
  have Ha1 : Hid (1 ≤ a) := by show _ ≤ _; omega
  have Ha2 : Hid (a ≤ 4) := by show _ ≤ _; omega
  have HD3 := Lib.hid hd
  have HY3 := Lib.hid (ho.bytes HY2.out)
  have HB3 : Hid (Below w.heap.size w w3) := HB2.out.trans ho.below
  clear hy hd ho
  go_wp2_with fail
  refine (below_any w.heap.size n0 _ 4 _ HD3.out HY3.out (by omega) (by unfold I64; omega)).mono ?_
  rintro e w4 ⟨y3, rfl, hy, hd, ho⟩
  have hy2 := hy.2 (by omega)
  obtain ⟨b, hb⟩ : ∃ b : Nat, 1 + y3 = (b : Int) := ⟨(1 + y3).toNat, by omega⟩
  have Hb1 : Hid (1 ≤ b) := by show _ ≤ _; omega
  have Hb2 : Hid (b ≤ 4) := by show _ ≤ _; omega
  have HD4 := Lib.hid hd
  have HY4 := Lib.hid (ho.bytes HY3.out)
  have HB4 : Hid (Below w.heap.size w w4) := HB3.out.trans ho.below
  clear hy hd ho
  have hn1 := Hn1.out
  have hn2 := Hn2.out
  have ha1 := Ha1.out
  have ha2 := Ha2.out
  have hb1 := Hb1.out
  have hb2 := Hb2.out
  have hab1 : 1 ≤ a * b := Nat.mul_pos ha1 hb1
  have hab2 : a * b ≤ 4 * 4 := Nat.mul_le_mul ha2 hb2
  have cP : ∀ W, Calls Try.prog 17 #[.int .i64 (n : Int)] W (GaveGB W (pathG n) true) := fun W => by have h := implPathGraph_any (n : Int) W; rwa [show inB (n : Int) 1 16 = true from gi_one (by omega) (by omega), genL_yes, Int.toNat_natCast] at h
  have cO : ∀ W, Calls Try.prog 18 #[.int .i64 (n : Int)] W (GaveGB W (loopG n) true) := fun W => by have h := implLoopGraph_any (n : Int) W; rwa [show inB (n : Int) 3 16 = true from gi_one (by omega) (by omega), genL_yes, Int.toNat_natCast] at h
  have cF : ∀ W, Calls Try.prog 19 #[.int .i64 (n : Int)] W (GaveGB W (fullG n) true) := fun W => by have h := implFullGraph_any (n : Int) W; rwa [show inB (n : Int) 1 16 = true from gi_one (by omega) (by omega), genL_yes, Int.toNat_natCast] at h
  have cT : ∀ W, Calls Try.prog 20 #[.int .i64 (a : Int), .int .i64 (b : Int)] W (GaveGB W (sideG a b) true) := fun W => by have h := implTwoSided_any (a : Int) (b : Int) W; rwa [show sidedB (a : Int) (b : Int) = true from by unfold sidedB; rw [gi_one (by omega) (by omega), gi_one (by omega) (by omega), Bool.true_and, Bool.true_and, decide_eq_true_iff]; omega, genL_yes, Int.toNat_natCast, show ((a : Int) + (b : Int)).toNat = a + b from by omega] at h
  have cR : ∀ W, Calls Try.prog 21 #[.int .i64 (a : Int), .int .i64 (b : Int)] W (GaveGB W (gridG a b) true) := fun W => by have h := implGridGraph_any (a : Int) (b : Int) W; rwa [show gridB (a : Int) (b : Int) = true from by unfold gridB; rw [gi_one (by omega) (by omega), gi_one (by omega) (by omega), Bool.true_and, Bool.true_and, decide_eq_true_iff, ← Int.natCast_mul]; omega, genL_yes, Int.toNat_natCast, show ((a : Int) * (b : Int)).toNat = a * b from by rw [← Int.natCast_mul, Int.toNat_natCast]] at h
  have cH : ∀ W, Calls Try.prog 22 #[.int .i64 (n : Int)] W (GaveGB W (wheelG n) true) := fun W => by have h := implWheelGraph_any (n : Int) W; rwa [show inB (n : Int) 3 15 = true from gi_one (by omega) (by omega), genL_yes, Int.toNat_natCast] at h
  have cX : ∀ W, Calls Try.prog 23 #[.int .i64 (n : Int)] W (GaveGB W (starG n) true) := fun W => by have h := implStarGraph_any (n : Int) W; rwa [show inB (n : Int) 0 15 = true from gi_one (by omega) (by omega), genL_yes, Int.toNat_natCast] at h
  have hP1 := many_path hn1 hn2
  have hO1 := many_loop hn1 hn2
  have hF1 := many_full hn1 hn2
  have hT1 := many_side ha1 ha2 hb1 hb2
  have hR1 := many_grid ha1 ha2 hb1 hb2
  have hH1 := many_wheel hn1 hn2
  have hX1 := many_star hn1 hn2
  have sO := sym_loop hn1 hn2
  have sP := sym_path hn1 hn2
  have hcw := cut_wheel hn1 hn2
  have hst := star_parts (n := n) (by omega)
  have hgt := grid_two (a := a) hb1 hab1 (by omega)
  have hsl : sameB (loopG n) (loopG n) = true := same_self2 (symA_graph _ (by omega) (by omega))
  obtain ⟨q, hq⟩ : ∃ q : Int, (n : Int) - 1 = q := ⟨_, rfl⟩
  obtain ⟨f, hf⟩ : ∃ f : Int, (n : Int) * q = f := ⟨_, rfl⟩
  have hf42 : 0 ≤ f ∧ f ≤ 42 := by
    have h : n = 3 ∨ n = 4 ∨ n = 5 ∨ n = 6 ∨ n = 7 := by omega
    rcases h with rfl | rfl | rfl | rfl | rfl <;> omega
  obtain ⟨t, ht⟩ : ∃ t : Int, f.tdiv 2 = t := ⟨_, rfl⟩
  have ht2 : f / 2 = t := by rw [← ht, Int.tdiv_eq_ediv_of_nonneg hf42.1]
  obtain ⟨ab, hab⟩ : ∃ ab : Int, (a : Int) * (b : Int) = ab := ⟨_, rfl⟩
  obtain ⟨bq, hbq⟩ : ∃ bq : Int, (b : Int) - 1 = bq := ⟨_, rfl⟩
  obtain ⟨aq, haq⟩ : ∃ aq : Int, (a : Int) - 1 = aq := ⟨_, rfl⟩
  obtain ⟨g1, hg1⟩ : ∃ g1 : Int, (a : Int) * bq = g1 := ⟨_, rfl⟩
  obtain ⟨g2, hg2⟩ : ∃ g2 : Int, (b : Int) * aq = g2 := ⟨_, rfl⟩
  have hbd : 0 ≤ ab ∧ ab ≤ 16 ∧ 0 ≤ g1 ∧ g1 ≤ 16 ∧ 0 ≤ g2 ∧ g2 ≤ 16 := by
    have h : a = 1 ∨ a = 2 ∨ a = 3 ∨ a = 4 := by omega
    have h2 : b = 1 ∨ b = 2 ∨ b = 3 ∨ b = 4 := by omega
    rcases h with rfl | rfl | rfl | rfl <;> rcases h2 with rfl | rfl | rfl | rfl <;> omega
  obtain ⟨hf0, hf4⟩ := hf42
  obtain ⟨z1, z2, z3, z4, z5, z6⟩ := hbd
  obtain ⟨tw, htw⟩ : ∃ tw : Int, 2 * (n : Int) = tw := ⟨_, rfl⟩
  obtain ⟨gg, hgg⟩ : ∃ gg : Int, g1 + g2 = gg := ⟨_, rfl⟩
  rw [hq] at hP1 hF1
  rw [hf, ht] at hF1
  rw [hab] at hT1
  rw [hbq, haq, hg1, hg2, hgg] at hR1
  rw [htw] at hH1 sO
  have MP : Hid (∀ W u, GridAt W u (pathG n) → Calls Try.prog 24 #[.agg #[u]] W fun e W' => e = .returned (.int .i64 q) ∧ Below W.heap.size W W') := fun W u h => by have hh := specManyEdges_any u (pathG n) W h; rwa [hP1] at hh
  have MO : Hid (∀ W u, GridAt W u (loopG n) → Calls Try.prog 24 #[.agg #[u]] W fun e W' => e = .returned (.int .i64 (n : Int)) ∧ Below W.heap.size W W') := fun W u h => by have hh := specManyEdges_any u (loopG n) W h; rwa [hO1] at hh
  have MF : Hid (∀ W u, GridAt W u (fullG n) → Calls Try.prog 24 #[.agg #[u]] W fun e W' => e = .returned (.int .i64 t) ∧ Below W.heap.size W W') := fun W u h => by have hh := specManyEdges_any u (fullG n) W h; rwa [hF1] at hh
  have MT : Hid (∀ W u, GridAt W u (sideG a b) → Calls Try.prog 24 #[.agg #[u]] W fun e W' => e = .returned (.int .i64 ab) ∧ Below W.heap.size W W') := fun W u h => by have hh := specManyEdges_any u (sideG a b) W h; rwa [hT1] at hh
  have MR : Hid (∀ W u, GridAt W u (gridG a b) → Calls Try.prog 24 #[.agg #[u]] W fun e W' => e = .returned (.int .i64 gg) ∧ Below W.heap.size W W') := fun W u h => by have hh := specManyEdges_any u (gridG a b) W h; rwa [hR1] at hh
  have MH : Hid (∀ W u, GridAt W u (wheelG n) → Calls Try.prog 24 #[.agg #[u]] W fun e W' => e = .returned (.int .i64 tw) ∧ Below W.heap.size W W') := fun W u h => by have hh := specManyEdges_any u (wheelG n) W h; rwa [hH1] at hh
  have MX : Hid (∀ W u, GridAt W u (starG n) → Calls Try.prog 24 #[.agg #[u]] W fun e W' => e = .returned (.int .i64 (n : Int)) ∧ Below W.heap.size W W') := fun W u h => by have hh := specManyEdges_any u (starG n) W h; rwa [hX1] at hh
  have YO : Hid (∀ W u, GridAt W u (loopG n) → Calls Try.prog 27 #[.agg #[u]] W fun e W' => e = .returned (.int .i64 tw) ∧ Below W.heap.size W W') := fun W u h => by have hh := implSymmetries_any u (loopG n) W h; rwa [sO] at hh
  have YP : Hid (∀ W u, GridAt W u (pathG n) → Calls Try.prog 27 #[.agg #[u]] W fun e W' => e = .returned (.int .i64 2) ∧ Below W.heap.size W W') := fun W u h => by have hh := implSymmetries_any u (pathG n) W h; rwa [sP] at hh
  have YC : Hid (∀ W u, GridAt W u (wheelG n) → Calls Try.prog 26 #[.agg #[u], .int .i64 (n : Int)] W (GaveGB W (loopG n) true)) := fun W u h => by have hh := specCutVertex_any u (wheelG n) (n : Int) W h (by unfold I64; omega); rwa [hcw.1, hcw.2] at hh
  have YS : Hid (∀ W u, GridAt W u (gridG a b) → Calls Try.prog 25 #[.agg #[u]] W (GaveRB W (soL (gridG a b)) true)) := fun W u h => by have hh := specSidesOf_any u (gridG a b) W h; rwa [hgt] at hh
  have YG : Hid (∀ W u v, GridAt W u (loopG n) → GridAt W v (loopG n) → Calls Try.prog 28 #[.agg #[u], .agg #[v]] W fun e W' => e = .returned (.bool true) ∧ Below W.heap.size W W') := fun W u v h h' => by have hh := specSameGraph_any u v (loopG n) (loopG n) W h h'; rwa [hsl] at hh
  have YT : Hid (∀ W u, GridAt W u (starG n) → Calls Try.prog 29 #[.agg #[u]] W fun e W' => ∃ a c, e = .returned (.slice a 1 c) ∧ Below W.heap.size W W') := fun W u h => (specPartsOf_any u (starG n) W h).mono (fun e W' ⟨n9, a9, c9, h1, h2, h3⟩ => ⟨a9, c9, by rw [h1, own_len h2, hst], h3⟩)
  have CP := Lib.hid cP
  have CO := Lib.hid cO
  have CF := Lib.hid cF
  have CT := Lib.hid cT
  have CR := Lib.hid cR
  have CH := Lib.hid cH
  have CX := Lib.hid cX
  clear cP cO cF cT cR cH cX hP1 hO1 hF1 hT1 hR1 hH1 hX1 sO sP hcw hst hgt hsl hab1 hab2 ha1 ha2 hb1 hb2 hn1 hn2
  obtain ⟨LP, hLP⟩ : ∃ L, pathG n = L := ⟨_, rfl⟩
  obtain ⟨LO, hLO⟩ : ∃ L, loopG n = L := ⟨_, rfl⟩
  obtain ⟨LF, hLF⟩ : ∃ L, fullG n = L := ⟨_, rfl⟩
  obtain ⟨LT, hLT⟩ : ∃ L, sideG a b = L := ⟨_, rfl⟩
  obtain ⟨LR, hLR⟩ : ∃ L, gridG a b = L := ⟨_, rfl⟩
  obtain ⟨LH, hLH⟩ : ∃ L, wheelG n = L := ⟨_, rfl⟩
  obtain ⟨LX, hLX⟩ : ∃ L, starG n = L := ⟨_, rfl⟩
  rw [hLP] at CP MP YP
  rw [hLO] at CO MO YO YC YG
  rw [hLF] at CF MF
  rw [hLT] at CT MT
  rw [hLR] at CR MR YS
  rw [hLH] at CH MH YC
  rw [hLX] at CX MX YT
  clear hLP hLO hLF hLT hLR hLH hLX
  go_wp2_with fail
  refine (CP.out _).mono ?_
  rintro e xP ⟨mP, aP, cP, rfl, ho, hb⟩
  have hst : Below xP.heap.size xP (xP.alloc (.cells #[.slice aP mP cP] 30)) := (Below.refl _ _).alloc (Nat.le_refl _) _
  have hnew : Below w4.heap.size w4 (xP.alloc (.cells #[.slice aP mP cP] 30)) := hb.alloc hb.size _
  have gP := ho.grid.keep hst
  have kP := (BoxAt.new xP (.slice aP mP cP) 30).1
  clear ho hb hst
  go_wp2_with fail
  generalize hWW : xP.alloc (.cells #[.slice aP mP cP] 30) = wP at hnew gP kP ⊢
  clear hWW
  have AP : Hid (∀ W, Below wP.heap.size wP W → W.cell? ⟨xP.heap.size, 0, none⟩ = some (.slice aP mP cP)) := fun W h => cell_keep h kP
  have BP : Hid (∀ W, Below wP.heap.size wP W → GridAt W (.slice aP mP cP) LP) := fun W h => gP.keep h
  have HB1_ : Hid (Below w.heap.size w wP) := HB4.out.trans (hnew.mono HB4.out.size)
  clear hnew gP kP
  have NP1 : Hid (Below wP.heap.size wP wP) := Below.refl _ _
  go_wp2_with fail
  refine (CO.out _).mono ?_
  rintro e xO ⟨mO, aO, cO, rfl, ho, hb⟩
  have hst : Below xO.heap.size xO (xO.alloc (.cells #[.slice aO mO cO] 30)) := (Below.refl _ _).alloc (Nat.le_refl _) _
  have hnew : Below wP.heap.size wP (xO.alloc (.cells #[.slice aO mO cO] 30)) := hb.alloc hb.size _
  have gO := ho.grid.keep hst
  have kO := (BoxAt.new xO (.slice aO mO cO) 30).1
  clear ho hb hst
  go_wp2_with fail
  generalize hWW : xO.alloc (.cells #[.slice aO mO cO] 30) = wO at hnew gO kO ⊢
  clear hWW
  have AO : Hid (∀ W, Below wO.heap.size wO W → W.cell? ⟨xO.heap.size, 0, none⟩ = some (.slice aO mO cO)) := fun W h => cell_keep h kO
  have BO : Hid (∀ W, Below wO.heap.size wO W → GridAt W (.slice aO mO cO) LO) := fun W h => gO.keep h
  have HB2_ : Hid (Below w.heap.size w wO) := HB1_.out.trans (hnew.mono HB1_.out.size)
  have NP2 : Hid (Below wP.heap.size wP wO) := NP1.out.trans (hnew.mono NP1.out.size)
  clear NP1
  clear hnew gO kO
  have NO2 : Hid (Below wO.heap.size wO wO) := Below.refl _ _
  go_wp2_with fail
  refine (CF.out _).mono ?_
  rintro e xF ⟨mF, aF, cF, rfl, ho, hb⟩
  have hst : Below xF.heap.size xF (xF.alloc (.cells #[.slice aF mF cF] 30)) := (Below.refl _ _).alloc (Nat.le_refl _) _
  have hnew : Below wO.heap.size wO (xF.alloc (.cells #[.slice aF mF cF] 30)) := hb.alloc hb.size _
  have gF := ho.grid.keep hst
  have kF := (BoxAt.new xF (.slice aF mF cF) 30).1
  clear ho hb hst
  go_wp2_with fail
  generalize hWW : xF.alloc (.cells #[.slice aF mF cF] 30) = wF at hnew gF kF ⊢
  clear hWW
  have AF : Hid (∀ W, Below wF.heap.size wF W → W.cell? ⟨xF.heap.size, 0, none⟩ = some (.slice aF mF cF)) := fun W h => cell_keep h kF
  have BF : Hid (∀ W, Below wF.heap.size wF W → GridAt W (.slice aF mF cF) LF) := fun W h => gF.keep h
  have HB3_ : Hid (Below w.heap.size w wF) := HB2_.out.trans (hnew.mono HB2_.out.size)
  have NP3 : Hid (Below wP.heap.size wP wF) := NP2.out.trans (hnew.mono NP2.out.size)
  have NO3 : Hid (Below wO.heap.size wO wF) := NO2.out.trans (hnew.mono NO2.out.size)
  clear NP2 NO2
  clear hnew gF kF
  have NF3 : Hid (Below wF.heap.size wF wF) := Below.refl _ _
  go_wp2_with fail
  refine (CT.out _).mono ?_
  rintro e xT ⟨mT, aT, cT, rfl, ho, hb⟩
  have hst : Below xT.heap.size xT (xT.alloc (.cells #[.slice aT mT cT] 30)) := (Below.refl _ _).alloc (Nat.le_refl _) _
  have hnew : Below wF.heap.size wF (xT.alloc (.cells #[.slice aT mT cT] 30)) := hb.alloc hb.size _
  have gT := ho.grid.keep hst
  have kT := (BoxAt.new xT (.slice aT mT cT) 30).1
  clear ho hb hst
  go_wp2_with fail
  generalize hWW : xT.alloc (.cells #[.slice aT mT cT] 30) = wT at hnew gT kT ⊢
  clear hWW
  have AT : Hid (∀ W, Below wT.heap.size wT W → W.cell? ⟨xT.heap.size, 0, none⟩ = some (.slice aT mT cT)) := fun W h => cell_keep h kT
  have BT : Hid (∀ W, Below wT.heap.size wT W → GridAt W (.slice aT mT cT) LT) := fun W h => gT.keep h
  have HB4_ : Hid (Below w.heap.size w wT) := HB3_.out.trans (hnew.mono HB3_.out.size)
  have NP4 : Hid (Below wP.heap.size wP wT) := NP3.out.trans (hnew.mono NP3.out.size)
  have NO4 : Hid (Below wO.heap.size wO wT) := NO3.out.trans (hnew.mono NO3.out.size)
  have NF4 : Hid (Below wF.heap.size wF wT) := NF3.out.trans (hnew.mono NF3.out.size)
  clear NP3 NO3 NF3
  clear hnew gT kT
  have NT4 : Hid (Below wT.heap.size wT wT) := Below.refl _ _
  go_wp2_with fail
  refine (CR.out _).mono ?_
  rintro e xR ⟨mR, aR, cR, rfl, ho, hb⟩
  have hst : Below xR.heap.size xR (xR.alloc (.cells #[.slice aR mR cR] 30)) := (Below.refl _ _).alloc (Nat.le_refl _) _
  have hnew : Below wT.heap.size wT (xR.alloc (.cells #[.slice aR mR cR] 30)) := hb.alloc hb.size _
  have gR := ho.grid.keep hst
  have kR := (BoxAt.new xR (.slice aR mR cR) 30).1
  clear ho hb hst
  go_wp2_with fail
  generalize hWW : xR.alloc (.cells #[.slice aR mR cR] 30) = wR at hnew gR kR ⊢
  clear hWW
  have AR : Hid (∀ W, Below wR.heap.size wR W → W.cell? ⟨xR.heap.size, 0, none⟩ = some (.slice aR mR cR)) := fun W h => cell_keep h kR
  have BR : Hid (∀ W, Below wR.heap.size wR W → GridAt W (.slice aR mR cR) LR) := fun W h => gR.keep h
  have HB5_ : Hid (Below w.heap.size w wR) := HB4_.out.trans (hnew.mono HB4_.out.size)
  have NP5 : Hid (Below wP.heap.size wP wR) := NP4.out.trans (hnew.mono NP4.out.size)
  have NO5 : Hid (Below wO.heap.size wO wR) := NO4.out.trans (hnew.mono NO4.out.size)
  have NF5 : Hid (Below wF.heap.size wF wR) := NF4.out.trans (hnew.mono NF4.out.size)
  have NT5 : Hid (Below wT.heap.size wT wR) := NT4.out.trans (hnew.mono NT4.out.size)
  clear NP4 NO4 NF4 NT4
  clear hnew gR kR
  have NR5 : Hid (Below wR.heap.size wR wR) := Below.refl _ _
  go_wp2_with fail
  refine (CH.out _).mono ?_
  rintro e xH ⟨mH, aH, cH, rfl, ho, hb⟩
  have hst : Below xH.heap.size xH (xH.alloc (.cells #[.slice aH mH cH] 30)) := (Below.refl _ _).alloc (Nat.le_refl _) _
  have hnew : Below wR.heap.size wR (xH.alloc (.cells #[.slice aH mH cH] 30)) := hb.alloc hb.size _
  have gH := ho.grid.keep hst
  have kH := (BoxAt.new xH (.slice aH mH cH) 30).1
  clear ho hb hst
  go_wp2_with fail
  generalize hWW : xH.alloc (.cells #[.slice aH mH cH] 30) = wH at hnew gH kH ⊢
  clear hWW
  have AH : Hid (∀ W, Below wH.heap.size wH W → W.cell? ⟨xH.heap.size, 0, none⟩ = some (.slice aH mH cH)) := fun W h => cell_keep h kH
  have BH : Hid (∀ W, Below wH.heap.size wH W → GridAt W (.slice aH mH cH) LH) := fun W h => gH.keep h
  have HB6_ : Hid (Below w.heap.size w wH) := HB5_.out.trans (hnew.mono HB5_.out.size)
  have NP6 : Hid (Below wP.heap.size wP wH) := NP5.out.trans (hnew.mono NP5.out.size)
  have NO6 : Hid (Below wO.heap.size wO wH) := NO5.out.trans (hnew.mono NO5.out.size)
  have NF6 : Hid (Below wF.heap.size wF wH) := NF5.out.trans (hnew.mono NF5.out.size)
  have NT6 : Hid (Below wT.heap.size wT wH) := NT5.out.trans (hnew.mono NT5.out.size)
  have NR6 : Hid (Below wR.heap.size wR wH) := NR5.out.trans (hnew.mono NR5.out.size)
  clear NP5 NO5 NF5 NT5 NR5
  clear hnew gH kH
  have NH6 : Hid (Below wH.heap.size wH wH) := Below.refl _ _
  go_wp2_with fail
  refine (CX.out _).mono ?_
  rintro e xX ⟨mX, aX, cX, rfl, ho, hb⟩
  have hst : Below xX.heap.size xX (xX.alloc (.cells #[.slice aX mX cX] 30)) := (Below.refl _ _).alloc (Nat.le_refl _) _
  have hnew : Below wH.heap.size wH (xX.alloc (.cells #[.slice aX mX cX] 30)) := hb.alloc hb.size _
  have gX := ho.grid.keep hst
  have kX := (BoxAt.new xX (.slice aX mX cX) 30).1
  have kk := cell_keep hnew (AP.out _ NP6.out)
  clear ho hb hst
  go_wp2_with fail
  generalize hWW : xX.alloc (.cells #[.slice aX mX cX] 30) = wX at hnew gX kX kk ⊢
  clear hWW
  have AX : Hid (∀ W, Below wX.heap.size wX W → W.cell? ⟨xX.heap.size, 0, none⟩ = some (.slice aX mX cX)) := fun W h => cell_keep h kX
  have BX : Hid (∀ W, Below wX.heap.size wX W → GridAt W (.slice aX mX cX) LX) := fun W h => gX.keep h
  have HB7_ : Hid (Below w.heap.size w wX) := HB6_.out.trans (hnew.mono HB6_.out.size)
  have NP7 : Hid (Below wP.heap.size wP wX) := NP6.out.trans (hnew.mono NP6.out.size)
  have NO7 : Hid (Below wO.heap.size wO wX) := NO6.out.trans (hnew.mono NO6.out.size)
  have NF7 : Hid (Below wF.heap.size wF wX) := NF6.out.trans (hnew.mono NF6.out.size)
  have NT7 : Hid (Below wT.heap.size wT wX) := NT6.out.trans (hnew.mono NT6.out.size)
  have NR7 : Hid (Below wR.heap.size wR wX) := NR6.out.trans (hnew.mono NR6.out.size)
  have NH7 : Hid (Below wH.heap.size wH wX) := NH6.out.trans (hnew.mono NH6.out.size)
  clear NP6 NO6 NF6 NT6 NR6 NH6
  clear hnew gX kX
  have NX7 : Hid (Below wX.heap.size wX wX) := Below.refl _ _
  have hself : ∀ x : Int, (x != x) = false := fun x => by simp
  refine (MP.out _ _ (BP.out _ NP7.out)).mono ?_
  rintro e y8w ⟨rfl, hb⟩
  have HB8_ : Hid (Below w.heap.size w y8w) := HB7_.out.trans (hb.mono HB7_.out.size)
  have NP8 : Hid (Below wP.heap.size wP y8w) := NP7.out.trans (hb.mono NP7.out.size)
  have NO8 : Hid (Below wO.heap.size wO y8w) := NO7.out.trans (hb.mono NO7.out.size)
  have NF8 : Hid (Below wF.heap.size wF y8w) := NF7.out.trans (hb.mono NF7.out.size)
  have NT8 : Hid (Below wT.heap.size wT y8w) := NT7.out.trans (hb.mono NT7.out.size)
  have NR8 : Hid (Below wR.heap.size wR y8w) := NR7.out.trans (hb.mono NR7.out.size)
  have NH8 : Hid (Below wH.heap.size wH y8w) := NH7.out.trans (hb.mono NH7.out.size)
  have NX8 : Hid (Below wX.heap.size wX y8w) := NX7.out.trans (hb.mono NX7.out.size)
  clear NP7 NO7 NF7 NT7 NR7 NH7 NX7
  clear kk hb
  have kk := AO.out _ NO8.out
  go_wp2_with fail
  refine (MO.out _ _ (BO.out _ NO8.out)).mono ?_
  rintro e y9w ⟨rfl, hb⟩
  have HB9_ : Hid (Below w.heap.size w y9w) := HB8_.out.trans (hb.mono HB8_.out.size)
  have NP9 : Hid (Below wP.heap.size wP y9w) := NP8.out.trans (hb.mono NP8.out.size)
  have NO9 : Hid (Below wO.heap.size wO y9w) := NO8.out.trans (hb.mono NO8.out.size)
  have NF9 : Hid (Below wF.heap.size wF y9w) := NF8.out.trans (hb.mono NF8.out.size)
  have NT9 : Hid (Below wT.heap.size wT y9w) := NT8.out.trans (hb.mono NT8.out.size)
  have NR9 : Hid (Below wR.heap.size wR y9w) := NR8.out.trans (hb.mono NR8.out.size)
  have NH9 : Hid (Below wH.heap.size wH y9w) := NH8.out.trans (hb.mono NH8.out.size)
  have NX9 : Hid (Below wX.heap.size wX y9w) := NX8.out.trans (hb.mono NX8.out.size)
  clear NP8 NO8 NF8 NT8 NR8 NH8 NX8
  clear kk hb
  have kk := AF.out _ NF9.out
  go_wp2_with fail
  refine (MF.out _ _ (BF.out _ NF9.out)).mono ?_
  rintro e y10w ⟨rfl, hb⟩
  have HB10_ : Hid (Below w.heap.size w y10w) := HB9_.out.trans (hb.mono HB9_.out.size)
  have NP10 : Hid (Below wP.heap.size wP y10w) := NP9.out.trans (hb.mono NP9.out.size)
  have NO10 : Hid (Below wO.heap.size wO y10w) := NO9.out.trans (hb.mono NO9.out.size)
  have NF10 : Hid (Below wF.heap.size wF y10w) := NF9.out.trans (hb.mono NF9.out.size)
  have NT10 : Hid (Below wT.heap.size wT y10w) := NT9.out.trans (hb.mono NT9.out.size)
  have NR10 : Hid (Below wR.heap.size wR y10w) := NR9.out.trans (hb.mono NR9.out.size)
  have NH10 : Hid (Below wH.heap.size wH y10w) := NH9.out.trans (hb.mono NH9.out.size)
  have NX10 : Hid (Below wX.heap.size wX y10w) := NX9.out.trans (hb.mono NX9.out.size)
  clear NP9 NO9 NF9 NT9 NR9 NH9 NX9
  clear kk hb
  have kk := AT.out _ NT10.out
  go_wp2_with fail
  refine (MT.out _ _ (BT.out _ NT10.out)).mono ?_
  rintro e y11w ⟨rfl, hb⟩
  have HB11_ : Hid (Below w.heap.size w y11w) := HB10_.out.trans (hb.mono HB10_.out.size)
  have NP11 : Hid (Below wP.heap.size wP y11w) := NP10.out.trans (hb.mono NP10.out.size)
  have NO11 : Hid (Below wO.heap.size wO y11w) := NO10.out.trans (hb.mono NO10.out.size)
  have NF11 : Hid (Below wF.heap.size wF y11w) := NF10.out.trans (hb.mono NF10.out.size)
  have NT11 : Hid (Below wT.heap.size wT y11w) := NT10.out.trans (hb.mono NT10.out.size)
  have NR11 : Hid (Below wR.heap.size wR y11w) := NR10.out.trans (hb.mono NR10.out.size)
  have NH11 : Hid (Below wH.heap.size wH y11w) := NH10.out.trans (hb.mono NH10.out.size)
  have NX11 : Hid (Below wX.heap.size wX y11w) := NX10.out.trans (hb.mono NX10.out.size)
  clear NP10 NO10 NF10 NT10 NR10 NH10 NX10
  clear kk hb
  have kk := AR.out _ NR11.out
  go_wp2_with fail
  refine (MR.out _ _ (BR.out _ NR11.out)).mono ?_
  rintro e y12w ⟨rfl, hb⟩
  have HB12_ : Hid (Below w.heap.size w y12w) := HB11_.out.trans (hb.mono HB11_.out.size)
  have NP12 : Hid (Below wP.heap.size wP y12w) := NP11.out.trans (hb.mono NP11.out.size)
  have NO12 : Hid (Below wO.heap.size wO y12w) := NO11.out.trans (hb.mono NO11.out.size)
  have NF12 : Hid (Below wF.heap.size wF y12w) := NF11.out.trans (hb.mono NF11.out.size)
  have NT12 : Hid (Below wT.heap.size wT y12w) := NT11.out.trans (hb.mono NT11.out.size)
  have NR12 : Hid (Below wR.heap.size wR y12w) := NR11.out.trans (hb.mono NR11.out.size)
  have NH12 : Hid (Below wH.heap.size wH y12w) := NH11.out.trans (hb.mono NH11.out.size)
  have NX12 : Hid (Below wX.heap.size wX y12w) := NX11.out.trans (hb.mono NX11.out.size)
  clear NP11 NO11 NF11 NT11 NR11 NH11 NX11
  clear kk hb
  have kk := AH.out _ NH12.out
  go_wp2_with fail
  refine (MH.out _ _ (BH.out _ NH12.out)).mono ?_
  rintro e y13w ⟨rfl, hb⟩
  have HB13_ : Hid (Below w.heap.size w y13w) := HB12_.out.trans (hb.mono HB12_.out.size)
  have NP13 : Hid (Below wP.heap.size wP y13w) := NP12.out.trans (hb.mono NP12.out.size)
  have NO13 : Hid (Below wO.heap.size wO y13w) := NO12.out.trans (hb.mono NO12.out.size)
  have NF13 : Hid (Below wF.heap.size wF y13w) := NF12.out.trans (hb.mono NF12.out.size)
  have NT13 : Hid (Below wT.heap.size wT y13w) := NT12.out.trans (hb.mono NT12.out.size)
  have NR13 : Hid (Below wR.heap.size wR y13w) := NR12.out.trans (hb.mono NR12.out.size)
  have NH13 : Hid (Below wH.heap.size wH y13w) := NH12.out.trans (hb.mono NH12.out.size)
  have NX13 : Hid (Below wX.heap.size wX y13w) := NX12.out.trans (hb.mono NX12.out.size)
  clear NP12 NO12 NF12 NT12 NR12 NH12 NX12
  clear kk hb
  have kk := AX.out _ NX13.out
  go_wp2_with fail
  refine (MX.out _ _ (BX.out _ NX13.out)).mono ?_
  rintro e y14w ⟨rfl, hb⟩
  have HB14_ : Hid (Below w.heap.size w y14w) := HB13_.out.trans (hb.mono HB13_.out.size)
  have NP14 : Hid (Below wP.heap.size wP y14w) := NP13.out.trans (hb.mono NP13.out.size)
  have NO14 : Hid (Below wO.heap.size wO y14w) := NO13.out.trans (hb.mono NO13.out.size)
  have NF14 : Hid (Below wF.heap.size wF y14w) := NF13.out.trans (hb.mono NF13.out.size)
  have NT14 : Hid (Below wT.heap.size wT y14w) := NT13.out.trans (hb.mono NT13.out.size)
  have NR14 : Hid (Below wR.heap.size wR y14w) := NR13.out.trans (hb.mono NR13.out.size)
  have NH14 : Hid (Below wH.heap.size wH y14w) := NH13.out.trans (hb.mono NH13.out.size)
  have NX14 : Hid (Below wX.heap.size wX y14w) := NX13.out.trans (hb.mono NX13.out.size)
  clear NP13 NO13 NF13 NT13 NR13 NH13 NX13
  clear kk hb
  have kk := AR.out _ NR14.out
  go_wp2_with fail
  refine (YS.out _ _ (BR.out _ NR14.out)).mono ?_
  rintro e y15w ⟨mS, aS, cS, rfl, ho, hb⟩
  have HB15_ : Hid (Below w.heap.size w y15w) := HB14_.out.trans (hb.mono HB14_.out.size)
  have NP15 : Hid (Below wP.heap.size wP y15w) := NP14.out.trans (hb.mono NP14.out.size)
  have NO15 : Hid (Below wO.heap.size wO y15w) := NO14.out.trans (hb.mono NO14.out.size)
  have NF15 : Hid (Below wF.heap.size wF y15w) := NF14.out.trans (hb.mono NF14.out.size)
  have NT15 : Hid (Below wT.heap.size wT y15w) := NT14.out.trans (hb.mono NT14.out.size)
  have NR15 : Hid (Below wR.heap.size wR y15w) := NR14.out.trans (hb.mono NR14.out.size)
  have NH15 : Hid (Below wH.heap.size wH y15w) := NH14.out.trans (hb.mono NH14.out.size)
  have NX15 : Hid (Below wX.heap.size wX y15w) := NX14.out.trans (hb.mono NX14.out.size)
  clear NP14 NO14 NF14 NT14 NR14 NH14 NX14
  clear kk hb ho
  have kk := AH.out _ NH15.out
  go_wp2_with fail
  refine (YC.out _ _ (BH.out _ NH15.out)).mono ?_
  rintro e xC ⟨mC, aC, cC, rfl, ho, hb⟩
  have hst : Below xC.heap.size xC (xC.alloc (.cells #[.slice aC mC cC] 30)) := (Below.refl _ _).alloc (Nat.le_refl _) _
  have hnew : Below y15w.heap.size y15w (xC.alloc (.cells #[.slice aC mC cC] 30)) := hb.alloc hb.size _
  have gC := ho.grid.keep hst
  have kC := (BoxAt.new xC (.slice aC mC cC) 30).1
  have kO := cell_keep hnew (AO.out _ NO15.out)
  clear ho hb hst kk
  go_wp2_with fail
  generalize hWW : xC.alloc (.cells #[.slice aC mC cC] 30) = wC at hnew gC kC kO ⊢
  clear hWW
  have AC : Hid (∀ W, Below wC.heap.size wC W → W.cell? ⟨xC.heap.size, 0, none⟩ = some (.slice aC mC cC)) := fun W h => cell_keep h kC
  have BC : Hid (∀ W, Below wC.heap.size wC W → GridAt W (.slice aC mC cC) LO) := fun W h => gC.keep h
  have HB16_ : Hid (Below w.heap.size w wC) := HB15_.out.trans (hnew.mono HB15_.out.size)
  have NP16 : Hid (Below wP.heap.size wP wC) := NP15.out.trans (hnew.mono NP15.out.size)
  have NO16 : Hid (Below wO.heap.size wO wC) := NO15.out.trans (hnew.mono NO15.out.size)
  have NF16 : Hid (Below wF.heap.size wF wC) := NF15.out.trans (hnew.mono NF15.out.size)
  have NT16 : Hid (Below wT.heap.size wT wC) := NT15.out.trans (hnew.mono NT15.out.size)
  have NR16 : Hid (Below wR.heap.size wR wC) := NR15.out.trans (hnew.mono NR15.out.size)
  have NH16 : Hid (Below wH.heap.size wH wC) := NH15.out.trans (hnew.mono NH15.out.size)
  have NX16 : Hid (Below wX.heap.size wX wC) := NX15.out.trans (hnew.mono NX15.out.size)
  clear NP15 NO15 NF15 NT15 NR15 NH15 NX15
  clear hnew gC kC
  have NC16 : Hid (Below wC.heap.size wC wC) := Below.refl _ _
  refine (YO.out _ _ (BO.out _ NO16.out)).mono ?_
  rintro e y17w ⟨rfl, hb⟩
  have HB17_ : Hid (Below w.heap.size w y17w) := HB16_.out.trans (hb.mono HB16_.out.size)
  have NP17 : Hid (Below wP.heap.size wP y17w) := NP16.out.trans (hb.mono NP16.out.size)
  have NO17 : Hid (Below wO.heap.size wO y17w) := NO16.out.trans (hb.mono NO16.out.size)
  have NF17 : Hid (Below wF.heap.size wF y17w) := NF16.out.trans (hb.mono NF16.out.size)
  have NT17 : Hid (Below wT.heap.size wT y17w) := NT16.out.trans (hb.mono NT16.out.size)
  have NR17 : Hid (Below wR.heap.size wR y17w) := NR16.out.trans (hb.mono NR16.out.size)
  have NH17 : Hid (Below wH.heap.size wH y17w) := NH16.out.trans (hb.mono NH16.out.size)
  have NX17 : Hid (Below wX.heap.size wX y17w) := NX16.out.trans (hb.mono NX16.out.size)
  have NC17 : Hid (Below wC.heap.size wC y17w) := NC16.out.trans (hb.mono NC16.out.size)
  clear NP16 NO16 NF16 NT16 NR16 NH16 NX16 NC16
  clear hb kO
  have kk := AP.out _ NP17.out
  go_wp2_with fail
  refine (YP.out _ _ (BP.out _ NP17.out)).mono ?_
  rintro e y18w ⟨rfl, hb⟩
  have HB18_ : Hid (Below w.heap.size w y18w) := HB17_.out.trans (hb.mono HB17_.out.size)
  have NP18 : Hid (Below wP.heap.size wP y18w) := NP17.out.trans (hb.mono NP17.out.size)
  have NO18 : Hid (Below wO.heap.size wO y18w) := NO17.out.trans (hb.mono NO17.out.size)
  have NF18 : Hid (Below wF.heap.size wF y18w) := NF17.out.trans (hb.mono NF17.out.size)
  have NT18 : Hid (Below wT.heap.size wT y18w) := NT17.out.trans (hb.mono NT17.out.size)
  have NR18 : Hid (Below wR.heap.size wR y18w) := NR17.out.trans (hb.mono NR17.out.size)
  have NH18 : Hid (Below wH.heap.size wH y18w) := NH17.out.trans (hb.mono NH17.out.size)
  have NX18 : Hid (Below wX.heap.size wX y18w) := NX17.out.trans (hb.mono NX17.out.size)
  have NC18 : Hid (Below wC.heap.size wC y18w) := NC17.out.trans (hb.mono NC17.out.size)
  clear NP17 NO17 NF17 NT17 NR17 NH17 NX17 NC17
  clear kk hb
  have kk := AO.out _ NO18.out
  have kC := AC.out _ NC18.out
  go_wp2_with fail
  refine (YG.out _ _ _ (BC.out _ NC18.out) (BO.out _ NO18.out)).mono ?_
  rintro e y19w ⟨rfl, hb⟩
  have HB19_ : Hid (Below w.heap.size w y19w) := HB18_.out.trans (hb.mono HB18_.out.size)
  have NP19 : Hid (Below wP.heap.size wP y19w) := NP18.out.trans (hb.mono NP18.out.size)
  have NO19 : Hid (Below wO.heap.size wO y19w) := NO18.out.trans (hb.mono NO18.out.size)
  have NF19 : Hid (Below wF.heap.size wF y19w) := NF18.out.trans (hb.mono NF18.out.size)
  have NT19 : Hid (Below wT.heap.size wT y19w) := NT18.out.trans (hb.mono NT18.out.size)
  have NR19 : Hid (Below wR.heap.size wR y19w) := NR18.out.trans (hb.mono NR18.out.size)
  have NH19 : Hid (Below wH.heap.size wH y19w) := NH18.out.trans (hb.mono NH18.out.size)
  have NX19 : Hid (Below wX.heap.size wX y19w) := NX18.out.trans (hb.mono NX18.out.size)
  have NC19 : Hid (Below wC.heap.size wC y19w) := NC18.out.trans (hb.mono NC18.out.size)
  clear NP18 NO18 NF18 NT18 NR18 NH18 NX18 NC18
  clear hb kk kC
  have kk := AX.out _ NX19.out
  go_wp2_with fail
  refine (YT.out _ _ (BX.out _ NX19.out)).mono ?_
  rintro e y20w ⟨aT, cT, rfl, hb⟩
  have HB20_ : Hid (Below w.heap.size w y20w) := HB19_.out.trans (hb.mono HB19_.out.size)
  have NP20 : Hid (Below wP.heap.size wP y20w) := NP19.out.trans (hb.mono NP19.out.size)
  have NO20 : Hid (Below wO.heap.size wO y20w) := NO19.out.trans (hb.mono NO19.out.size)
  have NF20 : Hid (Below wF.heap.size wF y20w) := NF19.out.trans (hb.mono NF19.out.size)
  have NT20 : Hid (Below wT.heap.size wT y20w) := NT19.out.trans (hb.mono NT19.out.size)
  have NR20 : Hid (Below wR.heap.size wR y20w) := NR19.out.trans (hb.mono NR19.out.size)
  have NH20 : Hid (Below wH.heap.size wH y20w) := NH19.out.trans (hb.mono NH19.out.size)
  have NX20 : Hid (Below wX.heap.size wX y20w) := NX19.out.trans (hb.mono NX19.out.size)
  have NC20 : Hid (Below wC.heap.size wC y20w) := NC19.out.trans (hb.mono NC19.out.size)
  clear NP19 NO19 NF19 NT19 NR19 NH19 NX19 NC19
  clear kk hb
  go_wp2
  go_ret
  exact ⟨rfl, HB20_.out⟩

end Go.Proofs.Ytojbaepcflkgeaa
