/- The texts GR1, GR2, joined. -/
import Derived.Test.YtojbaepcflkgeaaQGM3
import Derived.Test.YtojbaepcflkgeaaQMark
import Derived.Test.YtojbaepcflkgeaaQF6
import Derived.Laws.EntriesVeiled

/- Walks: the program's rules on pairs, as function values. -/
namespace Go.Proofs.Ytojbaepcflkgeaa
open Go.RowKit

/-- A function value that is asked of the pairs in turn tells R; blocks from B up to d alone may turn. -/
structure RuleOk (K : Nat) (lb : Array Value) (N : Nat) (R : Nat → Nat → Bool) (B d : Nat) (I : Nat → World → Prop) : Prop where
  enter : ∀ args w, (callFunc K args).run Try.prog w = .ok (.enter K args) w
  keep : ∀ k w w', I k w → w.heap.size ≤ w'.heap.size → (∀ j, j < d → w'.heap[j]? = w.heap[j]?) → I k w'
  ask : ∀ (u v : Nat) w, u < v → v < N → I (tri v + u) w → Calls Try.prog K (#[.int .i64 (u : Int), .int .i64 (v : Int)] ++ lb) w (fun e w' => e = .returned (.bool (R u v)) ∧ I (tri v + u + 1) w' ∧ Touched B d w w')

/-- A generator has told a number of vertices and a rule. -/
def GenPost (w : World) (N : Int) (R : Nat → Nat → Bool) (e : Ending) (w' : World) : Prop :=
  ∃ near, e = .returned (.tuple #[.int .i64 N, near]) ∧ Below w.heap.size w w' ∧ (inB N 1 16 = true → ∃ K lb I, near = .func (.func K) #[] lb ∧ RuleOk K lb N.toNat R w.heap.size w'.heap.size I ∧ I 0 w')

theorem drawn_touched {B d : Nat} {w w' : World} (h : Drawn w w') : Touched B d w w' := Touched.ofBelow (h.below _)

/-- The numbers that a generator takes. -/
def ArgsAt (w : World) (nv : Value) (xs : List Int) : Prop := ∃ b o c, nv = .slice (some ⟨b, o, none⟩) xs.length c ∧ ∀ i, i < xs.length → w.cell? ⟨b, o + i, none⟩ = some (.int .i64 (nth xs i))
theorem row_cells {w : World} {nv : Value} {xs : List Int} (h : ArgsAt w nv xs) (_h1 : 1 ≤ xs.length) : ∃ b o c, nv = .slice (some ⟨b, o, none⟩) xs.length c ∧ ∀ i, i < xs.length → w.cell? ⟨b, o + i, none⟩ = some (.int .i64 (nth xs i)) := h
theorem ArgsAt.keep {w w' : World} {nv : Value} {xs : List Int} (h : ArgsAt w nv xs) (hb : Below w.heap.size w w') : ArgsAt w' nv xs := by
  obtain ⟨b, o, c, e, hc⟩ := h
  exact ⟨b, o, c, e, fun i hi => cell_keep hb (hc i hi)⟩
/-- The numbers in a block of their own. -/
theorem ArgsAt.new (w : World) (xs : List Int) (c : Nat) : ArgsAt (w.alloc (.cells (xs.map (Value.int .i64)).toArray 2)) (.slice (some ⟨w.heap.size, 0, none⟩) xs.length c) xs := by
  refine ⟨_, _, _, rfl, fun i hi => ?_⟩
  rw [Nat.zero_add, cell_of_row _ _ i _ _ _ (heap_alloc_new w (.cells (xs.map (Value.int .i64)).toArray 2))]
  simp [nth, hi]

set_option maxHeartbeats 400000 in
theorem pathRule1_any (u v : Nat) (w : World) (huv : u < v) (hv : v < 16) : Calls Try.prog 136 #[.int .i64 (u : Int), .int .i64 (v : Int)] w fun e w' => e = .returned (.bool (pathR u v)) ∧ w = w' := by
  have HE : Hid (((v : Int) - (u : Int) == 1) = pathR u v) := by
    show _ = _
    unfold pathR
    rw [Bool.eq_iff_iff, beq_iff_eq, decide_eq_true_iff]; omega
  have b1 : (u : Int) < 16 := by omega
  have b2 : (v : Int) < 16 := by omega
  go_enter Try.func136, Try.ntmps136
  go_wp2
  go_ret
  exact ⟨by rw [← HE.out]; rfl, rfl⟩

set_option maxHeartbeats 400000 in
theorem pathRule_any (n : Int) (nv : Value) (w : World) (h : ArgsAt w nv [n]) : Calls Try.prog 107 #[nv] w (GenPost w n pathR) := by
  obtain ⟨b, o, c, rfl, hc⟩ := row_cells h (by simp)
  have h0 := hc 0 (by simp)
  have h0 : w.cell? ⟨b, o, none⟩ = some (.int .i64 n) := h0
  clear h hc
  go_enter Try.func107, Try.ntmps107
  go_wp2
  refine bodyPost_ret (v := .tuple #[.int .i64 n, .func (.func 136) #[] #[]]) (by simp [results, Try.results107, go_sem]) rfl ?_
  refine ⟨_, rfl, Below.refl _ _, fun hin => ⟨_, _, fun _ _ => True, rfl, ⟨fun _ _ => by kernel_rfl, fun _ _ _ _ _ _ => trivial, fun u v w huv hv _ => ?_⟩, trivial⟩⟩
  have hN : n ≤ 16 := by have : 1 ≤ n ∧ n ≤ 16 := (by simpa [inB] using hin); exact this.2
  refine (pathRule1_any u v w huv (by omega)).mono ?_
  rintro e w' ⟨rfl, rfl⟩
  exact ⟨rfl, trivial, Touched.refl _ _ _⟩

set_option maxHeartbeats 400000 in
theorem fullRule_any (n : Int) (nv : Value) (w : World) (h : ArgsAt w nv [n]) : Calls Try.prog 109 #[nv] w (GenPost w n fullR) := by
  obtain ⟨b, o, c, rfl, hc⟩ := row_cells h (by simp)
  have h0 := hc 0 (by simp)
  have h0 : w.cell? ⟨b, o, none⟩ = some (.int .i64 n) := h0
  clear h hc
  go_enter Try.func109, Try.ntmps109
  go_wp2
  refine bodyPost_ret (v := .tuple #[.int .i64 n, .func (.func 139) #[] #[]]) (by simp [results, Try.results109, go_sem]) rfl ?_
  refine ⟨_, rfl, Below.refl _ _, fun hin => ⟨_, _, fun _ _ => True, rfl, ⟨fun _ _ => by kernel_rfl, fun _ _ _ _ _ _ => trivial, fun u v w huv hv _ => ?_⟩, trivial⟩⟩
  go_enter Try.func139, Try.ntmps139
  go_wp2
  go_ret
  exact ⟨rfl, trivial, Touched.refl _ _ _⟩

theorem inRange_any (n lo hi : Int) (w : World) : Calls Try.prog 137 #[.int .i64 n, .int .i64 lo, .int .i64 hi] w fun e w' => e = .returned (.bool (inB n lo hi)) ∧ w = w' := by
  have HE : Hid ((decide (lo ≤ n) && decide (n ≤ hi)) = inB n lo hi) := by
    show _ = _
    unfold inB
    rw [Bool.eq_iff_iff]; simp
  go_enter Try.func137, Try.ntmps137
  by_cases h1 : lo ≤ n
  · have d1 : decide (lo ≤ n) = true := decide_eq_true h1
    rw [d1, Bool.true_and] at HE
    go_wp2
    go_ret
    exact ⟨by rw [← HE.out]; rfl, rfl⟩
  · have d1 : decide (lo ≤ n) = false := decide_eq_false h1
    rw [d1, Bool.false_and] at HE
    go_wp2
    go_ret
    exact ⟨by rw [← HE.out]; rfl, rfl⟩

end Go.Proofs.Ytojbaepcflkgeaa

/- Walks: the program's rules that read what they captured. -/
namespace Go.Proofs.Ytojbaepcflkgeaa
open Go.RowKit

theorem cell_of_same {w w' : World} {b : Nat} {o : Nat} {v : Value} (h : w.cell? ⟨b, o, none⟩ = some v) (e : w'.heap[b]? = w.heap[b]?) : w'.cell? ⟨b, o, none⟩ = some v := by
  rw [World.cell?_of_block (w := w) e]; exact h

theorem starRule_any (n : Int) (nv : Value) (w : World) (h : ArgsAt w nv [n]) : Calls Try.prog 115 #[nv] w (GenPost w (if inB n 0 16 then n + 1 else 0) (fun u _ => decide (u = 0))) := by
  obtain ⟨b, o, c, rfl, hc⟩ := row_cells h (by simp)
  have h0 := hc 0 (by simp)
  have h0 : w.cell? ⟨b, o, none⟩ = some (.int .i64 n) := h0
  clear h hc
  by_cases hin : inB n 0 16 = true
  · have hb : 0 ≤ n ∧ n ≤ 16 := by simpa [inB] using hin
    obtain ⟨hb1, hb2⟩ := hb
    rw [if_pos hin]
    have HI := Lib.hid hin
    clear hin
    go_enter Try.func115, Try.ntmps115
    go_wp2_with fail
    refine (inRange_any _ _ _ _).mono ?_
    rintro e w' ⟨rfl, rfl⟩
    rw [HI.out]
    go_wp2
    refine bodyPost_ret (v := .tuple #[.int .i64 (n + 1), .func (.func 145) #[] #[]]) (by simp [results, Try.results115, go_sem]) rfl ?_
    refine ⟨_, rfl, Below.refl _ _, fun _ => ⟨_, _, fun _ _ => True, rfl, ⟨fun _ _ => by kernel_rfl, fun _ _ _ _ _ _ => trivial, fun u v w huv hv _ => ?_⟩, trivial⟩⟩
    have HE : Hid (((u : Int) == 0) = decide (u = 0)) := by show _ = _; rw [Bool.eq_iff_iff, beq_iff_eq, decide_eq_true_iff]; omega
    go_enter Try.func145, Try.ntmps145
    go_wp2
    go_ret
    exact ⟨by rw [← HE.out]; rfl, trivial, Touched.refl _ _ _⟩
  · have hin' : inB n 0 16 = false := by simpa using hin
    rw [if_neg hin]
    have HI := Lib.hid hin'
    clear hin hin'
    go_enter Try.func115, Try.ntmps115
    go_wp2_with fail
    refine (inRange_any _ _ _ _).mono ?_
    rintro e w' ⟨rfl, rfl⟩
    rw [HI.out]
    go_wp2
    refine bodyPost_ret (v := .tuple #[.int .i64 0, .nilFunc]) (by simp [results, Try.results115, go_sem]) rfl ?_
    exact ⟨_, rfl, Below.refl _ _, fun h => by simp [inB] at h⟩

set_option maxHeartbeats 800000 in
theorem loopRule1_any (u v n p : Nat) (w : World) (hp : w.cell? ⟨p, 0, none⟩ = some (.int .i64 (n : Int))) (huv : u < v) (hv : v < 16) (h3 : 3 ≤ n) (hn : n ≤ 16) :
    Calls Try.prog 138 #[.int .i64 (u : Int), .int .i64 (v : Int), .pointer (some ⟨p, 0, none⟩)] w fun e w' => e = .returned (.bool (loopR n u v)) ∧ Drawn w w' := by
  have b1 : (u : Int) < 16 := by omega
  have b2 : (v : Int) < 16 := by omega
  have b3 : (3 : Int) ≤ (n : Int) := by omega
  have b4 : (n : Int) ≤ 16 := by omega
  by_cases h1 : v = u + 1
  · have d1 : ((v : Int) - (u : Int) == 1) = true := by rw [beq_iff_eq]; omega
    have HE : Hid (loopR n u v = true) := by show _ = _; unfold loopR; rw [decide_eq_true h1, Bool.true_or]
    clear h1
    go_enter Try.func138, Try.ntmps138
    go_wp2
    go_ret
    exact ⟨by rw [HE.out]; rfl, Drawn.refl _⟩
  · have d1 : ((v : Int) - (u : Int) == 1) = false := by rw [beq_eq_false_iff_ne]; omega
    have HE : Hid (((v : Int) - (u : Int) == (n : Int) - 1) = loopR n u v) := by
      show _ = _
      unfold loopR
      rw [decide_eq_false h1, Bool.false_or, Bool.eq_iff_iff, beq_iff_eq, decide_eq_true_iff]; omega
    clear h1
    go_enter Try.func138, Try.ntmps138
    go_wp2
    go_ret
    exact ⟨by rw [← HE.out]; rfl, Drawn.refl _⟩

set_option maxHeartbeats 800000 in
theorem loopRule_any (n : Int) (nv : Value) (w : World) (h : ArgsAt w nv [n]) :
    Calls Try.prog 108 #[nv] w (fun e w' => Below w.heap.size w w' ∧ w'.heap.size = w.heap.size + 1 ∧ w'.cell? ⟨w.heap.size, 0, none⟩ = some (.int .i64 n) ∧
      e = .returned (if inB n 3 16 then .tuple #[.int .i64 n, .func (.func 138) #[] #[.pointer (some ⟨w.heap.size, 0, none⟩)]] else .tuple #[.int .i64 0, .nilFunc])) := by
  obtain ⟨b, o, c, rfl, hc⟩ := row_cells h (by simp)
  have h0 := hc 0 (by simp)
  have h0 : w.cell? ⟨b, o, none⟩ = some (.int .i64 n) := h0
  have HB0 : Hid (Below w.heap.size w (w.alloc (.cells #[.int .i64 n] 2))) := (Below.refl _ _).alloc (Nat.le_refl _) _
  have HC0 : Hid ((w.alloc (.cells #[.int .i64 n] 2)).cell? ⟨w.heap.size, 0, none⟩ = some (.int .i64 n)) := (BoxAt.new _ _ _).1
  have hmf : ∀ (fn : Fn) (first cap : Array Value) (w : World), (Instr.makeFunc fn first cap).run Try.prog w = .ok (.func fn first cap) w := fun _ _ _ _ => rfl
  clear h hc
  by_cases hin : inB n 3 16 = true
  · rw [if_pos hin]
    have HI := Lib.hid hin
    clear hin
    go_enter Try.func108, Try.ntmps108
    go_wp2_with fail
    refine (inRange_any _ _ _ _).mono ?_
    rintro e w' ⟨rfl, rfl⟩
    rw [HI.out]
    go_wp2
    refine bodyPost_ret (v := .tuple #[.int .i64 n, .func (.func 138) #[] #[.pointer (some ⟨w.heap.size, 0, none⟩)]]) (by simp [results, Try.results108, go_sem]) rfl ?_
    exact ⟨HB0.out, size_alloc1 _ _, HC0.out, rfl⟩
  · have hin' : inB n 3 16 = false := by simpa using hin
    rw [if_neg hin]
    have HI := Lib.hid hin'
    clear hin hin'
    go_enter Try.func108, Try.ntmps108
    go_wp2_with fail
    refine (inRange_any _ _ _ _).mono ?_
    rintro e w' ⟨rfl, rfl⟩
    rw [HI.out]
    go_wp2
    refine bodyPost_ret (v := .tuple #[.int .i64 0, .nilFunc]) (by simp [results, Try.results108, go_sem]) rfl ?_
    exact ⟨HB0.out, size_alloc1 _ _, HC0.out, rfl⟩

theorem loopRule_gen (n : Int) (nv : Value) (w : World) (h : ArgsAt w nv [n]) : Calls Try.prog 108 #[nv] w (GenPost w (if inB n 3 16 then n else 0) (loopR n.toNat)) := by
  refine (loopRule_any n nv w h).mono ?_
  rintro e w' ⟨hb, hs, hc, rfl⟩
  by_cases hin : inB n 3 16 = true
  · rw [if_pos hin, if_pos hin]
    obtain ⟨m, rfl, hm1, hm2⟩ := inB_nat hin (by omega)
    refine ⟨_, rfl, hb, fun _ => ⟨_, _, fun _ w1 => w1.cell? ⟨w.heap.size, 0, none⟩ = some (.int .i64 (m : Int)), rfl, ⟨fun _ _ => by kernel_rfl, fun k w1 w2 hi _ hk => cell_of_same hi (hk _ (by omega)), fun u v w1 huv hv hi => ?_⟩, hc⟩⟩
    rw [Int.toNat_natCast] at hv ⊢
    refine (loopRule1_any u v m w.heap.size w1 hi huv (by omega) (by omega) (by omega)).mono ?_
    rintro e w2 ⟨rfl, hd⟩
    exact ⟨rfl, cell_drawn hd hi, drawn_touched hd⟩
  · rw [if_neg hin, if_neg hin]
    exact ⟨_, rfl, hb, fun h => by simp [inB] at h⟩

set_option maxHeartbeats 800000 in
theorem wheelRule1_any (u v n p q r : Nat) (w : World) (hp : w.cell? ⟨p, 0, none⟩ = some (.int .i64 (n : Int))) (hq : w.cell? ⟨q, 0, none⟩ = some (.func (.func 138) #[] #[.pointer (some ⟨r, 0, none⟩)])) (hr : w.cell? ⟨r, 0, none⟩ = some (.int .i64 (n : Int))) (huv : u < v) (hv : v ≤ n) (h3 : 3 ≤ n) (hn : n ≤ 15) :
    Calls Try.prog 141 #[.int .i64 (u : Int), .int .i64 (v : Int), .pointer (some ⟨p, 0, none⟩), .pointer (some ⟨q, 0, none⟩)] w fun e w' => e = .returned (.bool (wheelR n u v)) ∧ Drawn w w' := by
  by_cases h1 : v = n
  · have d1 : ((v : Int) == (n : Int)) = true := by rw [beq_iff_eq]; omega
    have HE : Hid (wheelR n u v = true) := by show _ = _; unfold wheelR; rw [decide_eq_true h1, Bool.true_or]
    clear h1
    go_enter Try.func141, Try.ntmps141
    go_wp2
    go_ret
    exact ⟨by rw [HE.out]; rfl, Drawn.refl _⟩
  · have d1 : ((v : Int) == (n : Int)) = false := by rw [beq_eq_false_iff_ne]; omega
    have HE : Hid (loopR n u v = wheelR n u v) := by show _ = _; unfold wheelR loopR; rw [decide_eq_false h1, Bool.false_or]
    go_enter Try.func141, Try.ntmps141
    go_wp2_with fail
    refine (loopRule1_any u v n r _ hr huv (by omega) h3 (by omega)).mono ?_
    rintro e w' ⟨rfl, hd⟩
    rw [HE.out]
    clear h1
    go_wp2
    go_ret
    exact ⟨rfl, hd⟩

set_option maxHeartbeats 800000 in
theorem wheelRule_gen (n : Int) (nv : Value) (w : World) (h : ArgsAt w nv [n]) : Calls Try.prog 111 #[nv] w (GenPost w (if inB n 3 16 then n + 1 else 0) (wheelR n.toNat)) := by
  have H := Lib.hid h
  have hmf : ∀ (fn : Fn) (first cap : Array Value) (w : World), (Instr.makeFunc fn first cap).run Try.prog w = .ok (.func fn first cap) w := fun _ _ _ _ => rfl
  clear h
  by_cases hin : inB n 3 16 = true
  · rw [if_pos hin]
    obtain ⟨m, rfl, hm1, hm2⟩ := inB_nat hin (by omega)
    go_enter Try.func111, Try.ntmps111
    go_wp2_with fail
    refine (loopRule_any (m : Int) _ _ H.out).mono ?_
    rintro e w1 ⟨hb, hs, hc, rfl⟩
    rw [if_pos hin]
    have d0 : ((m : Int) == 0) = false := by rw [beq_eq_false_iff_ne]; omega
    have HB := Lib.hid hb
    have HS := Lib.hid hs
    have HC := Lib.hid hc
    have c5 : ((w1.alloc (.cells #[.int .i64 (m : Int)] 2)).alloc (.cells #[.nilFunc] 88)).cell? ⟨w1.heap.size + 1, 0, none⟩ = some .nilFunc := by go_simp
    have f5 : ((w1.alloc (.cells #[.int .i64 (m : Int)] 2)).alloc (.cells #[.nilFunc] 88)).frozen? ⟨w1.heap.size + 1, 0, none⟩ = false := by go_simp
    clear hin hb hs hc
    go_wp2
    refine bodyPost_ret (v := .tuple #[.int .i64 ((m : Int) + 1), .func (.func 141) #[] #[.pointer (some ⟨w1.heap.size, 0, none⟩), .pointer (some ⟨w1.heap.size + 1, 0, none⟩)]]) (by simp [results, Try.results111, go_sem]) rfl ?_
    have hb2 : Below w1.heap.size w1 ((w1.alloc (.cells #[.int .i64 (m : Int)] 2)).alloc (.cells #[.func (.func 138) #[] #[.pointer (some ⟨w.heap.size, 0, none⟩)]] 88)) := ((Below.refl _ _).alloc (Nat.le_refl _) _).alloc (by simp) _
    have c1 : ((w1.alloc (.cells #[.int .i64 (m : Int)] 2)).alloc (.cells #[.func (.func 138) #[] #[.pointer (some ⟨w.heap.size, 0, none⟩)]] 88)).cell? ⟨w1.heap.size, 0, none⟩ = some (.int .i64 (m : Int)) := by go_simp
    have c2 : ((w1.alloc (.cells #[.int .i64 (m : Int)] 2)).alloc (.cells #[.func (.func 138) #[] #[.pointer (some ⟨w.heap.size, 0, none⟩)]] 88)).cell? ⟨w1.heap.size + 1, 0, none⟩ = some (.func (.func 138) #[] #[.pointer (some ⟨w.heap.size, 0, none⟩)]) := by go_simp
    have hs2 : ((w1.alloc (.cells #[.int .i64 (m : Int)] 2)).alloc (.cells #[.func (.func 138) #[] #[.pointer (some ⟨w.heap.size, 0, none⟩)]] 88)).heap.size = w1.heap.size + 1 + 1 := by rw [size_alloc1, size_alloc1]
    have hs1 := HS.out
    refine ⟨_, rfl, HB.out.trans (hb2.mono HB.out.size), fun hN => ⟨_, _, fun _ x => x.cell? ⟨w1.heap.size, 0, none⟩ = some (.int .i64 (m : Int)) ∧ x.cell? ⟨w1.heap.size + 1, 0, none⟩ = some (.func (.func 138) #[] #[.pointer (some ⟨w.heap.size, 0, none⟩)]) ∧ x.cell? ⟨w.heap.size, 0, none⟩ = some (.int .i64 (m : Int)), rfl,
      ⟨fun _ _ => by kernel_rfl, fun k x y hi _ hk => ⟨cell_of_same hi.1 (hk _ (by omega)), cell_of_same hi.2.1 (hk _ (by omega)), cell_of_same hi.2.2 (hk _ (by omega))⟩, fun u v x huv hv hi => ?_⟩, c1, c2, cell_keep hb2 HC.out⟩⟩
    have hN' : (1 : Int) ≤ (m : Int) + 1 ∧ (m : Int) + 1 ≤ 16 := by simpa [inB] using hN
    rw [Int.toNat_natCast]
    refine (wheelRule1_any u v m w1.heap.size (w1.heap.size + 1) w.heap.size x hi.1 hi.2.1 hi.2.2 huv (by omega) (by omega) (by omega)).mono ?_
    rintro e y ⟨rfl, hd⟩
    exact ⟨rfl, ⟨cell_drawn hd hi.1, cell_drawn hd hi.2.1, cell_drawn hd hi.2.2⟩, drawn_touched hd⟩
  · rw [if_neg hin]
    go_enter Try.func111, Try.ntmps111
    go_wp2_with fail
    refine (loopRule_any n _ _ H.out).mono ?_
    rintro e w1 ⟨hb, hs, hc, rfl⟩
    rw [if_neg hin]
    have HB := Lib.hid hb
    have c5 : ((w1.alloc (.cells #[.int .i64 0] 2)).alloc (.cells #[.nilFunc] 88)).cell? ⟨w1.heap.size + 1, 0, none⟩ = some .nilFunc := by go_simp
    have f5 : ((w1.alloc (.cells #[.int .i64 0] 2)).alloc (.cells #[.nilFunc] 88)).frozen? ⟨w1.heap.size + 1, 0, none⟩ = false := by go_simp
    clear hin hb hs hc
    go_wp2
    refine bodyPost_ret (v := .tuple #[.int .i64 0, .nilFunc]) (by simp [results, Try.results111, go_sem]) rfl ?_
    exact ⟨_, rfl, HB.out.trans ((((Below.refl _ _).alloc (Nat.le_refl _) _).alloc (by simp) _).mono HB.out.size), fun h => by simp [inB] at h⟩

end Go.Proofs.Ytojbaepcflkgeaa
