/- The texts KN1, KN2, joined. -/
import Derived.Test.YtojbaepcflkgeaaQU2
import Derived.Test.YtojbaepcflkgeaaQK2
import Derived.Test.YtojbaepcflkgeaaDA1
import Derived.Test.YtojbaepcflkgeaaQGR8
import Derived.Test.YtojbaepcflkgeaaQGR9
import Derived.Test.YtojbaepcflkgeaaGM6
import Derived.Test.YtojbaepcflkgeaaGM7
import Derived.Test.YtojbaepcflkgeaaQC6
import Derived.Test.YtojbaepcflkgeaaH3

/- Walks: what FnKnown draws. -/
namespace Go.Proofs.Ytojbaepcflkgeaa
open Go.RowKit

set_option maxHeartbeats 800000 in
theorem l1From_2_8 (c nb : Nat) (bv : Value) (w : World) (hc : CurAt w c bv nb) (hb : BytesAt w c bv nb) : Calls Try.prog 70 #[.pointer (some ⟨c, 0, none⟩), .int .i64 2, .int .i64 8] w (Drew w c bv nb (fun y => 2 ≤ y ∧ y ≤ 8)) := by
  have HBY := Lib.hid hb
  have HC := Lib.hid hc
  clear hc hb
  go_enter Try.func70, Try.ntmps70
  go_wp2_with fail
  refine (l1Below_any c nb bv _ _ HC.out HBY.out (by unfold I64; omega)).mono ?_
  rintro e w1 ⟨y, rfl, hy, hc1, ho1⟩
  have hy' := hy.2 (by omega)
  have HC1 := Lib.hid hc1
  have HO1 := Lib.hid ho1
  clear hc1 ho1 hy
  go_wp2
  go_ret
  exact ⟨2 + y, rfl, ⟨by omega, by omega⟩, HC1.out, HO1.out⟩

set_option maxHeartbeats 800000 in
theorem l1From_0_8 (c nb : Nat) (bv : Value) (w : World) (hc : CurAt w c bv nb) (hb : BytesAt w c bv nb) : Calls Try.prog 70 #[.pointer (some ⟨c, 0, none⟩), .int .i64 0, .int .i64 8] w (Drew w c bv nb (fun y => 0 ≤ y ∧ y ≤ 8)) := by
  have HBY := Lib.hid hb
  have HC := Lib.hid hc
  clear hc hb
  go_enter Try.func70, Try.ntmps70
  go_wp2_with fail
  refine (l1Below_any c nb bv _ _ HC.out HBY.out (by unfold I64; omega)).mono ?_
  rintro e w1 ⟨y, rfl, hy, hc1, ho1⟩
  have hy' := hy.2 (by omega)
  have HC1 := Lib.hid hc1
  have HO1 := Lib.hid ho1
  clear hc1 ho1 hy
  go_wp2
  go_ret
  first
    | exact ⟨y, rfl, ⟨by omega, by omega⟩, HC1.out, HO1.out⟩
    | exact ⟨0 + y, rfl, ⟨by omega, by omega⟩, HC1.out, HO1.out⟩

set_option maxHeartbeats 800000 in
theorem l6Draw_any (c nb : Nat) (bv : Value) (w : World) (hc : CurAt w c bv nb) (hb : BytesAt w c bv nb) : Calls Try.prog 65 #[.pointer (some ⟨c, 0, none⟩)] w (DrewN w c bv nb) := by
  have HBY := Lib.hid hb
  have HC := Lib.hid hc
  have hcw := hc.lt
  clear hc hb
  go_enter Try.func65, Try.ntmps65
  go_wp2_with fail
  refine (l1Once_any c nb bv _ _ HC.out HBY.out (by unfold I64; omega)).mono ?_
  rintro e w1 ⟨x, rfl, hc1, ho1⟩
  have HC1 := Lib.hid hc1
  have HY1 := Lib.hid (ho1.bytes HBY.out)
  have HT1 : Hid (Touched c (c + 1) w w1) := ho1.at
  clear hc1 ho1
  cases x with
  | true =>
    go_wp2_with fail
    refine (l1Num_any c nb bv 16 _ HC1.out HY1.out (by omega)).mono ?_
    rintro e w2 ⟨y, rfl, hy, hc2, ht2⟩
    have HP : Hid (DrewN w c bv nb (.returned (.int .i64 y)) w2) := ⟨y, rfl, hy, hc2, HT1.out.trans ht2⟩
    clear hy hc2 ht2
    go_wp2
    go_ret
    exact HP.out
  | false =>
    go_wp2_with fail
    refine (l1From_0_8 c nb bv _ HC1.out HY1.out).mono ?_
    rintro e w2 ⟨y, rfl, hy, hc2, ho2⟩
    have HP : Hid (DrewN w c bv nb (.returned (.int .i64 y)) w2) := ⟨y, rfl, by unfold I64; omega, hc2, HT1.out.trans ho2.at⟩
    clear hy hc2 ho2
    go_wp2
    go_ret
    exact HP.out

set_option maxHeartbeats 1600000 in
theorem drawKneser_any (n : Nat) (bv : Value) (w : World) (hb : BytesAt w w.heap.size bv n) : Calls Try.prog 33 #[bv] w fun e w' => ∃ k : Int, e = .returned (.int .i64 k) ∧ 2 ≤ k ∧ k ≤ 8 ∧ Below w.heap.size w w' := by
  have HB := Lib.hid hb
  clear hb
  go_enter Try.func33, Try.ntmps33
  go_wp2_with fail
  refine (l1New_any n bv _ HB.out).mono ?_
  rintro e w1 ⟨rfl, hc1, hb1⟩
  have HY1 := Lib.hid (HB.out.keepB hb1 (Nat.le_refl _))
  have HC1 := Lib.hid hc1
  have HB1 := Lib.hid hb1
  clear hc1 hb1
  go_wp2_with fail
  refine (l1From_2_8 _ n bv _ HC1.out HY1.out).mono ?_
  rintro e w2 ⟨y, rfl, hy, hc2, ho2⟩
  have HB2 : Hid (Below w.heap.size w w2) := HB1.out.trans ho2.below
  obtain ⟨hy1, hy2⟩ := hy
  clear hc2 ho2
  go_wp2
  go_ret
  exact ⟨y, rfl, hy1, hy2, HB2.out⟩

set_option maxHeartbeats 1600000 in
theorem drawDice_any (n : Nat) (bv : Value) (w : World) (hb : BytesAt w w.heap.size bv n) : Calls Try.prog 30 #[bv] w fun e w' => ∃ s k f : Int, e = .returned (.tuple #[.int .i64 s, .int .i64 k, .int .i64 f]) ∧ Below w.heap.size w w' := by
  have HB := Lib.hid hb
  clear hb
  go_enter Try.func30, Try.ntmps30
  go_wp2_with fail
  refine (l1New_any n bv _ HB.out).mono ?_
  rintro e w1 ⟨rfl, hc1, hb1⟩
  have HY1 := Lib.hid (HB.out.keepB hb1 (Nat.le_refl _))
  have HC1 := Lib.hid hc1
  have HB1 := Lib.hid hb1
  have hcl := hc1.lt
  clear hc1 hb1
  go_wp2_with fail
  refine (l1Below_any w.heap.size n bv _ _ HC1.out HY1.out (by unfold I64; omega)).mono ?_
  rintro e w2 ⟨y, rfl, hy, hc2, ho2⟩
  have HC2 := Lib.hid hc2
  have HY2 := Lib.hid (ho2.bytes HY1.out)
  have HB2 : Hid (Below w.heap.size w w2) := HB1.out.trans ho2.below
  clear hc2 ho2 hy
  go_wp2_with fail
  refine (l1Once_any w.heap.size n bv _ _ HC2.out HY2.out (by unfold I64; omega)).mono ?_
  rintro e w3 ⟨x, rfl, hc3, ho3⟩
  have HC3 := Lib.hid hc3
  have HY3 := Lib.hid (ho3.bytes HY2.out)
  have HB3 : Hid (Below w.heap.size w w3) := HB2.out.trans ho3.below
  have hz3 := hc3.lt
  clear hc3 ho3
  cases x with
  | true =>
    go_wp2_with fail
    refine (l1Odd_any w.heap.size n bv _ HC3.out HY3.out).mono ?_
    rintro e w4 ⟨s, rfl, hs, hc4, ht4⟩
    have HC4 := Lib.hid hc4
    have HY4 := Lib.hid (ht4.bytes HY3.out (Nat.le_of_lt hz3))
    have HB4 : Hid (Below w.heap.size w w4) := HB3.out.trans (ht4.below (Nat.le_of_lt hz3))
    have hz4 := hc4.lt
    clear hc4 ht4 hs
    go_wp2_with fail
    refine (l6Draw_any w.heap.size n bv _ HC4.out HY4.out).mono ?_
    rintro e w5 ⟨k, rfl, hk, hc5, ht5⟩
    have HC5 := Lib.hid hc5
    have HY5 := Lib.hid (ht5.bytes HY4.out (Nat.le_of_lt hz4))
    have HB5 : Hid (Below w.heap.size w w5) := HB4.out.trans (ht5.below (Nat.le_of_lt hz4))
    have hz5 := hc5.lt
    clear hc5 ht5 hk
    go_wp2_with fail
    refine (l1Num_any w.heap.size n bv 100 _ HC5.out HY5.out (by omega)).mono ?_
    rintro e w6 ⟨f, rfl, hf, hc6, ht6⟩
    have HB6 : Hid (Below w.heap.size w w6) := HB5.out.trans (ht6.below (Nat.le_of_lt hz5))
    clear hc6 ht6 hf
    go_wp2
    go_ret3
    exact ⟨s, k, f, rfl, HB6.out⟩
  | false =>
    go_wp2_with fail
    refine (l6Draw_any w.heap.size n bv _ HC3.out HY3.out).mono ?_
    rintro e w5 ⟨k, rfl, hk, hc5, ht5⟩
    have HC5 := Lib.hid hc5
    have HY5 := Lib.hid (ht5.bytes HY3.out (Nat.le_of_lt hz3))
    have HB5 : Hid (Below w.heap.size w w5) := HB3.out.trans (ht5.below (Nat.le_of_lt hz3))
    have hz5 := hc5.lt
    clear hc5 ht5 hk
    go_wp2_with fail
    refine (l1Num_any w.heap.size n bv 100 _ HC5.out HY5.out (by omega)).mono ?_
    rintro e w6 ⟨f, rfl, hf, hc6, ht6⟩
    have HB6 : Hid (Below w.heap.size w w6) := HB5.out.trans (ht6.below (Nat.le_of_lt hz5))
    clear hc6 ht6 hf
    go_wp2
    go_ret3
    exact ⟨_, k, f, rfl, HB6.out⟩

end Go.Proofs.Ytojbaepcflkgeaa

/- The walk of FnKnown. Written by program (tools/gen/known.py). -/
namespace Go.Proofs.Ytojbaepcflkgeaa
open Go.RowKit

def kneL (k : Nat) : List (List Int) := adjL (tri k) (symA (tri k) (kneR k))
theorem kne_graph {k : Nat} (h1 : 4 ≤ k) (h2 : k ≤ 6) : GraphP (kneL k) := symA_graph _ (by have h4 := tri_mono (m := 4) (n := k) h1; have h5 : tri 4 = 6 := rfl; omega) (by have := tri_le h2; omega)
theorem kne_deg4 : degL (kneL 4) = List.replicate 6 1 := by decide +kernel
theorem kne_deg5 : degL (kneL 5) = List.replicate 10 3 := by decide +kernel
theorem kne_deg6 : degL (kneL 6) = List.replicate 15 6 := by decide +kernel
theorem same_self {L : List (List Int)} (h : GraphP L) : sameB L L = true := by unfold sameB; rw [decide_eq_true h, decide_eq_true rfl]; rfl
theorem first_cell {w : World} {a : Option Addr} {n c m : Nat} {x : Int} (h : RowAt w (.slice a n c) (List.replicate (m + 1) x)) : ∃ b o, a = some ⟨b, o, none⟩ ∧ n = m + 1 ∧ w.cell? ⟨b, o, none⟩ = some (.int .i64 x) := by
  obtain ⟨b, o, c', e, l1, l2, hc⟩ := h.pos (by simp)
  simp only [Value.slice.injEq, List.length_replicate] at e
  obtain ⟨rfl, rfl, rfl⟩ := e
  have h0 := hc 0 (by simp)
  exact ⟨b, o, rfl, rfl, by simpa [nth] using h0⟩

set_option maxHeartbeats 8000000 in
set_option maxRecDepth 100000 in
theorem lawKnown (a0 : Option Addr) (n0 c0 : Nat) (w : World) (hb : n0 ≤ 4096 → BytesAt w w.heap.size (.slice a0 n0 c0) n0) :
    Calls Try.prog 4 #[.slice a0 n0 c0] w fun e w' => e = .returned (.bool true) ∧ Below w.heap.size w w' := by
  have HBY := Lib.hid hb
  clear hb
  go_enter Try.func4, Try.ntmps4
  go_wp2_with fail
  refine (big_any _ _ _ _).mono ?_
  rintro e w' ⟨rfl, rfl⟩
  by_cases hbig : (4096 : Int) < (n0 : Int)
  · rw [decide_eq_true hbig]
    go_wp2
    go_ret
    exact ⟨rfl, Below.refl _ _⟩
  rw [decide_eq_false hbig]
  have HBZ : Hid (BytesAt w w.heap.size (.slice a0 n0 c0) n0) := HBY.out (by omega)
  clear HBY
  go_wp2_with fail
  refine (drawDice_any n0 _ _ HBZ.out).mono ?_
  rintro e w1 ⟨s, k, f, rfl, hb1⟩
  have HB1 := Lib.hid hb1
  clear hb1 hbig
  obtain ⟨L, hL⟩ : ∃ L, L = genL (diceB k f) k.toNat (diceR s f) := ⟨_, rfl⟩
  obtain ⟨ok, hok⟩ : ∃ ok, ok = diceB k f := ⟨_, rfl⟩
  have HI : Hid (∀ W, Calls Try.prog 31 #[.int .i64 s, .int .i64 k, .int .i64 f] W (GaveGB W L ok)) := fun W => by rw [hL, hok]; exact implDiceGraph_any s k f W
  have HS : Hid (∀ W, Calls Try.prog 32 #[.int .i64 s, .int .i64 k, .int .i64 f] W (GaveGB W L ok)) := fun W => by rw [hL, hok]; exact specDiceGraph_any s k f W
  have HGL : Hid (ok = true → GraphP L) := fun h => by
    rw [hok] at h
    rw [hL, h, genL_yes]
    unfold diceB at h
    rw [Bool.and_eq_true] at h
    have := inB_iff.1 h.1
    exact symA_graph _ (by omega) (by omega)
  clear hL hok
  go_wp2_with fail
  refine (HI.out _).mono ?_
  rintro e w2 ⟨m2, a2, c2, rfl, ho2, hb2⟩
  have HG2 := Lib.hid ho2.grid
  have HB2 : Hid (Below w.heap.size w w2) := HB1.out.trans (hb2.mono HB1.out.size)
  have hst : Below w2.heap.size w2 (w2.alloc (.cells #[.slice a2 m2 c2] 30)) := (Below.refl _ _).alloc (Nat.le_refl _) _
  have HB3 : Hid (Below w.heap.size w (w2.alloc (.cells #[.slice a2 m2 c2] 30))) := HB2.out.alloc HB2.out.size _
  have HG3 := Lib.hid (HG2.out.keep hst)
  have HK3 := Lib.hid (BoxAt.new w2 (.slice a2 m2 c2) 30).1
  clear ho2 hb2 hst
  go_wp2_with fail
  generalize w2.alloc (.cells #[.slice a2 m2 c2] 30) = w3 at HB3 HG3 HK3 ⊢
  refine (HS.out _).mono ?_
  rintro e w4 ⟨m4, a4, c4, rfl, ho4, hb4⟩
  have HB4 : Hid (Below w.heap.size w w4) := HB3.out.trans (hb4.mono HB3.out.size)
  have hst : Below w4.heap.size w4 (w4.alloc (.cells #[.slice a4 m4 c4] 30)) := (Below.refl _ _).alloc (Nat.le_refl _) _
  have HB5 : Hid (Below w.heap.size w (w4.alloc (.cells #[.slice a4 m4 c4] 30))) := HB4.out.alloc HB4.out.size _
  have HG5 := Lib.hid ((HG3.out.keep hb4).keep hst)
  have HW5 := Lib.hid (ho4.grid.keep hst)
  have k5 := cell_keep hst (cell_keep hb4 HK3.out)
  have KW5 := Lib.hid (BoxAt.new w4 (.slice a4 m4 c4) 30).1
  clear ho4 hb4 hst
  rcases Bool.eq_false_or_eq_true ok with rfl | rfl
  · have HGP := Lib.hid (HGL.out rfl)
    have hsm := same_self HGP.out
    have HSM := Lib.hid hsm
    clear hsm HGL
    go_wp2_with fail
    refine (specSameGraph_any _ _ L L _ HG5.out HW5.out).mono ?_
    rintro e w6 ⟨rfl, hb6⟩
    rw [HSM.out]
    have HB6 : Hid (Below w.heap.size w w6) := HB5.out.trans (hb6.mono HB5.out.size)
    clear hb6 k5
    go_wp2_with fail
    refine (drawKneser_any n0 _ _ (HBZ.out.keepB HB6.out (Nat.le_refl _) |>.wide HB6.out.size)).mono ?_
    rintro e w7 ⟨q, rfl, hq1, hq2, hb7⟩
    have HB7 : Hid (Below w.heap.size w w7) := HB6.out.trans (hb7.mono HB6.out.size)
    clear hb7
    by_cases hin : inB q 4 6 = true
    · have hqc : q = 4 ∨ q = 5 ∨ q = 6 := by have := inB_iff.1 hin; omega
      clear hin hq1 hq2
      rcases hqc with rfl | rfl | rfl
      · obtain ⟨G, hG⟩ : ∃ G, G = kneL 4 := ⟨_, rfl⟩
        have HI2 : Hid (∀ W, Calls Try.prog 34 #[.int .i64 4] W (GaveGB W G true)) := fun W => by rw [hG]; exact implKneserGraph_any 4 W
        have HS2 : Hid (∀ W, Calls Try.prog 35 #[.int .i64 4] W (GaveGB W G true)) := fun W => by rw [hG]; exact specKneserGraph_any 4 W
        have HSM2 : Hid (sameB G G = true) := same_self (by rw [hG]; exact kne_graph (by omega) (by omega))
        have HDG : Hid (degL G = List.replicate (5 + 1) 1) := by show _ = _; rw [hG]; exact kne_deg4
        clear hG
        go_wp2_with fail
        refine (HI2.out _).mono ?_
        rintro e w8 ⟨m8, a8, c8, rfl, ho8, hb8⟩
        have HG8 := Lib.hid ho8.grid
        have HB8 : Hid (Below w.heap.size w w8) := HB7.out.trans (hb8.mono HB7.out.size)
        have hst : Below w8.heap.size w8 (w8.alloc (.cells #[.slice a8 m8 c8] 30)) := (Below.refl _ _).alloc (Nat.le_refl _) _
        have HB9 : Hid (Below w.heap.size w (w8.alloc (.cells #[.slice a8 m8 c8] 30))) := HB8.out.alloc HB8.out.size _
        have HG9 := Lib.hid (HG8.out.keep hst)
        have HK9 := Lib.hid (BoxAt.new w8 (.slice a8 m8 c8) 30).1
        clear ho8 hb8 hst
        go_wp2_with fail
        generalize w8.alloc (.cells #[.slice a8 m8 c8] 30) = w9 at HB9 HG9 HK9 ⊢
        refine (HS2.out _).mono ?_
        rintro e w10 ⟨m10, a10, c10, rfl, ho10, hb10⟩
        have HB10 : Hid (Below w.heap.size w w10) := HB9.out.trans (hb10.mono HB9.out.size)
        have hst : Below w10.heap.size w10 (w10.alloc (.cells #[.slice a10 m10 c10] 30)) := (Below.refl _ _).alloc (Nat.le_refl _) _
        have HB11 : Hid (Below w.heap.size w (w10.alloc (.cells #[.slice a10 m10 c10] 30))) := HB10.out.alloc HB10.out.size _
        have HG11 := Lib.hid ((HG9.out.keep hb10).keep hst)
        have HW11 := Lib.hid (ho10.grid.keep hst)
        have KP11 := Lib.hid (cell_keep hst (cell_keep hb10 HK9.out))
        have kp11 := KP11.out
        clear ho10 hb10 hst
        go_wp2_with fail
        generalize w10.alloc (.cells #[.slice a10 m10 c10] 30) = w11 at HB11 HG11 HW11 KP11 kp11 ⊢
        refine (specSameGraph_any _ _ G G _ HG11.out HW11.out).mono ?_
        rintro e w12 ⟨rfl, hb12⟩
        rw [HSM2.out]
        have HB12 : Hid (Below w.heap.size w w12) := HB11.out.trans (hb12.mono HB11.out.size)
        have HG12 := Lib.hid (HG11.out.keep hb12)
        have KP12 := Lib.hid (cell_keep hb12 KP11.out)
        have kp12 := KP12.out
        clear hb12 kp11
        go_wp2_with fail
        refine (specDegreesOf_any _ G _ HG12.out).mono ?_
        rintro e w13 ⟨n13, a13, c13, rfl, ho13, hb13⟩
        rw [HDG.out] at ho13
        obtain ⟨b13, o13, rfl, rfl, _⟩ := first_cell ho13.row
        have HB13 : Hid (Below w.heap.size w w13) := HB12.out.trans (hb13.mono HB12.out.size)
        have HG13 := Lib.hid (HG12.out.keep hb13)
        have kp13 := cell_keep hb13 KP12.out
        clear ho13 hb13 kp12
        go_wp2_with fail
        refine (implDegreesOf_any _ G _ HG13.out).mono ?_
        rintro e w14 ⟨n14, a14, c14, rfl, ho14, hb14⟩
        rw [HDG.out] at ho14
        obtain ⟨b14, o14, rfl, rfl, k14⟩ := first_cell ho14.row
        have HB14 : Hid (Below w.heap.size w w14) := HB13.out.trans (hb14.mono HB13.out.size)
        clear ho14 hb14 kp13
        go_wp2
        go_ret
        exact ⟨rfl, HB14.out⟩
      · obtain ⟨G, hG⟩ : ∃ G, G = kneL 5 := ⟨_, rfl⟩
        have HI2 : Hid (∀ W, Calls Try.prog 34 #[.int .i64 5] W (GaveGB W G true)) := fun W => by rw [hG]; exact implKneserGraph_any 5 W
        have HS2 : Hid (∀ W, Calls Try.prog 35 #[.int .i64 5] W (GaveGB W G true)) := fun W => by rw [hG]; exact specKneserGraph_any 5 W
        have HSM2 : Hid (sameB G G = true) := same_self (by rw [hG]; exact kne_graph (by omega) (by omega))
        have HDG : Hid (degL G = List.replicate (9 + 1) 3) := by show _ = _; rw [hG]; exact kne_deg5
        clear hG
        go_wp2_with fail
        refine (HI2.out _).mono ?_
        rintro e w8 ⟨m8, a8, c8, rfl, ho8, hb8⟩
        have HG8 := Lib.hid ho8.grid
        have HB8 : Hid (Below w.heap.size w w8) := HB7.out.trans (hb8.mono HB7.out.size)
        have hst : Below w8.heap.size w8 (w8.alloc (.cells #[.slice a8 m8 c8] 30)) := (Below.refl _ _).alloc (Nat.le_refl _) _
        have HB9 : Hid (Below w.heap.size w (w8.alloc (.cells #[.slice a8 m8 c8] 30))) := HB8.out.alloc HB8.out.size _
        have HG9 := Lib.hid (HG8.out.keep hst)
        have HK9 := Lib.hid (BoxAt.new w8 (.slice a8 m8 c8) 30).1
        clear ho8 hb8 hst
        go_wp2_with fail
        generalize w8.alloc (.cells #[.slice a8 m8 c8] 30) = w9 at HB9 HG9 HK9 ⊢
        refine (HS2.out _).mono ?_
        rintro e w10 ⟨m10, a10, c10, rfl, ho10, hb10⟩
        have HB10 : Hid (Below w.heap.size w w10) := HB9.out.trans (hb10.mono HB9.out.size)
        have hst : Below w10.heap.size w10 (w10.alloc (.cells #[.slice a10 m10 c10] 30)) := (Below.refl _ _).alloc (Nat.le_refl _) _
        have HB11 : Hid (Below w.heap.size w (w10.alloc (.cells #[.slice a10 m10 c10] 30))) := HB10.out.alloc HB10.out.size _
        have HG11 := Lib.hid ((HG9.out.keep hb10).keep hst)
        have HW11 := Lib.hid (ho10.grid.keep hst)
        have KP11 := Lib.hid (cell_keep hst (cell_keep hb10 HK9.out))
        have kp11 := KP11.out
        clear ho10 hb10 hst
        go_wp2_with fail
        generalize w10.alloc (.cells #[.slice a10 m10 c10] 30) = w11 at HB11 HG11 HW11 KP11 kp11 ⊢
        refine (specSameGraph_any _ _ G G _ HG11.out HW11.out).mono ?_
        rintro e w12 ⟨rfl, hb12⟩
        rw [HSM2.out]
        have HB12 : Hid (Below w.heap.size w w12) := HB11.out.trans (hb12.mono HB11.out.size)
        have HG12 := Lib.hid (HG11.out.keep hb12)
        have KP12 := Lib.hid (cell_keep hb12 KP11.out)
        have kp12 := KP12.out
        clear hb12 kp11
        go_wp2_with fail
        refine (specDegreesOf_any _ G _ HG12.out).mono ?_
        rintro e w13 ⟨n13, a13, c13, rfl, ho13, hb13⟩
        rw [HDG.out] at ho13
        obtain ⟨b13, o13, rfl, rfl, _⟩ := first_cell ho13.row
        have HB13 : Hid (Below w.heap.size w w13) := HB12.out.trans (hb13.mono HB12.out.size)
        have HG13 := Lib.hid (HG12.out.keep hb13)
        have kp13 := cell_keep hb13 KP12.out
        clear ho13 hb13 kp12
        go_wp2_with fail
        refine (implDegreesOf_any _ G _ HG13.out).mono ?_
        rintro e w14 ⟨n14, a14, c14, rfl, ho14, hb14⟩
        rw [HDG.out] at ho14
        obtain ⟨b14, o14, rfl, rfl, k14⟩ := first_cell ho14.row
        have HB14 : Hid (Below w.heap.size w w14) := HB13.out.trans (hb14.mono HB13.out.size)
        clear ho14 hb14 kp13
        go_wp2
        go_ret
        exact ⟨rfl, HB14.out⟩
      · obtain ⟨G, hG⟩ : ∃ G, G = kneL 6 := ⟨_, rfl⟩
        have HI2 : Hid (∀ W, Calls Try.prog 34 #[.int .i64 6] W (GaveGB W G true)) := fun W => by rw [hG]; exact implKneserGraph_any 6 W
        have HS2 : Hid (∀ W, Calls Try.prog 35 #[.int .i64 6] W (GaveGB W G true)) := fun W => by rw [hG]; exact specKneserGraph_any 6 W
        have HSM2 : Hid (sameB G G = true) := same_self (by rw [hG]; exact kne_graph (by omega) (by omega))
        have HDG : Hid (degL G = List.replicate (14 + 1) 6) := by show _ = _; rw [hG]; exact kne_deg6
        clear hG
        go_wp2_with fail
        refine (HI2.out _).mono ?_
        rintro e w8 ⟨m8, a8, c8, rfl, ho8, hb8⟩
        have HG8 := Lib.hid ho8.grid
        have HB8 : Hid (Below w.heap.size w w8) := HB7.out.trans (hb8.mono HB7.out.size)
        have hst : Below w8.heap.size w8 (w8.alloc (.cells #[.slice a8 m8 c8] 30)) := (Below.refl _ _).alloc (Nat.le_refl _) _
        have HB9 : Hid (Below w.heap.size w (w8.alloc (.cells #[.slice a8 m8 c8] 30))) := HB8.out.alloc HB8.out.size _
        have HG9 := Lib.hid (HG8.out.keep hst)
        have HK9 := Lib.hid (BoxAt.new w8 (.slice a8 m8 c8) 30).1
        clear ho8 hb8 hst
        go_wp2_with fail
        generalize w8.alloc (.cells #[.slice a8 m8 c8] 30) = w9 at HB9 HG9 HK9 ⊢
        refine (HS2.out _).mono ?_
        rintro e w10 ⟨m10, a10, c10, rfl, ho10, hb10⟩
        have HB10 : Hid (Below w.heap.size w w10) := HB9.out.trans (hb10.mono HB9.out.size)
        have hst : Below w10.heap.size w10 (w10.alloc (.cells #[.slice a10 m10 c10] 30)) := (Below.refl _ _).alloc (Nat.le_refl _) _
        have HB11 : Hid (Below w.heap.size w (w10.alloc (.cells #[.slice a10 m10 c10] 30))) := HB10.out.alloc HB10.out.size _
        have HG11 := Lib.hid ((HG9.out.keep hb10).keep hst)
        have HW11 := Lib.hid (ho10.grid.keep hst)
        have KP11 := Lib.hid (cell_keep hst (cell_keep hb10 HK9.out))
        have kp11 := KP11.out
        clear ho10 hb10 hst
        go_wp2_with fail
        generalize w10.alloc (.cells #[.slice a10 m10 c10] 30) = w11 at HB11 HG11 HW11 KP11 kp11 ⊢
        refine (specSameGraph_any _ _ G G _ HG11.out HW11.out).mono ?_
        rintro e w12 ⟨rfl, hb12⟩
        rw [HSM2.out]
        have HB12 : Hid (Below w.heap.size w w12) := HB11.out.trans (hb12.mono HB11.out.size)
        have HG12 := Lib.hid (HG11.out.keep hb12)
        have KP12 := Lib.hid (cell_keep hb12 KP11.out)
        have kp12 := KP12.out
        clear hb12 kp11
        go_wp2_with fail
        refine (specDegreesOf_any _ G _ HG12.out).mono ?_
        rintro e w13 ⟨n13, a13, c13, rfl, ho13, hb13⟩
        rw [HDG.out] at ho13
        obtain ⟨b13, o13, rfl, rfl, _⟩ := first_cell ho13.row
        have HB13 : Hid (Below w.heap.size w w13) := HB12.out.trans (hb13.mono HB12.out.size)
        have HG13 := Lib.hid (HG12.out.keep hb13)
        have kp13 := cell_keep hb13 KP12.out
        clear ho13 hb13 kp12
        go_wp2_with fail
        refine (implDegreesOf_any _ G _ HG13.out).mono ?_
        rintro e w14 ⟨n14, a14, c14, rfl, ho14, hb14⟩
        rw [HDG.out] at ho14
        obtain ⟨b14, o14, rfl, rfl, k14⟩ := first_cell ho14.row
        have HB14 : Hid (Below w.heap.size w w14) := HB13.out.trans (hb14.mono HB13.out.size)
        clear ho14 hb14 kp13
        go_wp2
        go_ret
        exact ⟨rfl, HB14.out⟩
    · have hin' : inB q 4 6 = false := by simpa using hin
      have HI2 : Hid (∀ W, Calls Try.prog 34 #[.int .i64 q] W (GaveGB W (genL false (tri q.toNat) (kneR q.toNat)) false)) := fun W => by have h := implKneserGraph_any q W; rwa [hin'] at h
      have HS2 : Hid (∀ W, Calls Try.prog 35 #[.int .i64 q] W (GaveGB W (genL false (tri q.toNat) (kneR q.toNat)) false)) := fun W => by have h := specKneserGraph_any q W; rwa [hin'] at h
      clear hin hin' hq1 hq2
      go_wp2_with fail
      refine (HI2.out _).mono ?_
      rintro e w8 ⟨m8, a8, c8, rfl, ho8, hb8⟩
      have HB8 : Hid (Below w.heap.size w w8) := HB7.out.trans (hb8.mono HB7.out.size)
      have HB9 : Hid (Below w.heap.size w (w8.alloc (.cells #[.slice a8 m8 c8] 30))) := HB8.out.alloc HB8.out.size _
      clear ho8 hb8
      go_wp2_with fail
      generalize w8.alloc (.cells #[.slice a8 m8 c8] 30) = w9 at HB9 ⊢
      refine (HS2.out _).mono ?_
      rintro e w10 ⟨m10, a10, c10, rfl, ho10, hb10⟩
      have HB10 : Hid (Below w.heap.size w w10) := HB9.out.trans (hb10.mono HB9.out.size)
      have HB11 : Hid (Below w.heap.size w (w10.alloc (.cells #[.slice a10 m10 c10] 30))) := HB10.out.alloc HB10.out.size _
      clear ho10 hb10
      go_wp2
      go_ret
      exact ⟨rfl, HB11.out⟩
  · clear HGL
    go_wp2_with fail
    refine (drawKneser_any n0 _ _ (HBZ.out.keepB HB5.out (Nat.le_refl _) |>.wide HB5.out.size)).mono ?_
    rintro e w7 ⟨q, rfl, hq1, hq2, hb7⟩
    have HB7 : Hid (Below w.heap.size w w7) := HB5.out.trans (hb7.mono HB5.out.size)
    clear hb7 k5
    by_cases hin : inB q 4 6 = true
    · have hqc : q = 4 ∨ q = 5 ∨ q = 6 := by have := inB_iff.1 hin; omega
      clear hin hq1 hq2
      rcases hqc with rfl | rfl | rfl
      · obtain ⟨G, hG⟩ : ∃ G, G = kneL 4 := ⟨_, rfl⟩
        have HI2 : Hid (∀ W, Calls Try.prog 34 #[.int .i64 4] W (GaveGB W G true)) := fun W => by rw [hG]; exact implKneserGraph_any 4 W
        have HS2 : Hid (∀ W, Calls Try.prog 35 #[.int .i64 4] W (GaveGB W G true)) := fun W => by rw [hG]; exact specKneserGraph_any 4 W
        have HSM2 : Hid (sameB G G = true) := same_self (by rw [hG]; exact kne_graph (by omega) (by omega))
        have HDG : Hid (degL G = List.replicate (5 + 1) 1) := by show _ = _; rw [hG]; exact kne_deg4
        clear hG
        go_wp2_with fail
        refine (HI2.out _).mono ?_
        rintro e w8 ⟨m8, a8, c8, rfl, ho8, hb8⟩
        have HG8 := Lib.hid ho8.grid
        have HB8 : Hid (Below w.heap.size w w8) := HB7.out.trans (hb8.mono HB7.out.size)
        have hst : Below w8.heap.size w8 (w8.alloc (.cells #[.slice a8 m8 c8] 30)) := (Below.refl _ _).alloc (Nat.le_refl _) _
        have HB9 : Hid (Below w.heap.size w (w8.alloc (.cells #[.slice a8 m8 c8] 30))) := HB8.out.alloc HB8.out.size _
        have HG9 := Lib.hid (HG8.out.keep hst)
        have HK9 := Lib.hid (BoxAt.new w8 (.slice a8 m8 c8) 30).1
        clear ho8 hb8 hst
        go_wp2_with fail
        generalize w8.alloc (.cells #[.slice a8 m8 c8] 30) = w9 at HB9 HG9 HK9 ⊢
        refine (HS2.out _).mono ?_
        rintro e w10 ⟨m10, a10, c10, rfl, ho10, hb10⟩
        have HB10 : Hid (Below w.heap.size w w10) := HB9.out.trans (hb10.mono HB9.out.size)
        have hst : Below w10.heap.size w10 (w10.alloc (.cells #[.slice a10 m10 c10] 30)) := (Below.refl _ _).alloc (Nat.le_refl _) _
        have HB11 : Hid (Below w.heap.size w (w10.alloc (.cells #[.slice a10 m10 c10] 30))) := HB10.out.alloc HB10.out.size _
        have HG11 := Lib.hid ((HG9.out.keep hb10).keep hst)
        have HW11 := Lib.hid (ho10.grid.keep hst)
        have KP11 := Lib.hid (cell_keep hst (cell_keep hb10 HK9.out))
        have kp11 := KP11.out
        clear ho10 hb10 hst
        go_wp2_with fail
        generalize w10.alloc (.cells #[.slice a10 m10 c10] 30) = w11 at HB11 HG11 HW11 KP11 kp11 ⊢
        refine (specSameGraph_any _ _ G G _ HG11.out HW11.out).mono ?_
        rintro e w12 ⟨rfl, hb12⟩
        rw [HSM2.out]
        have HB12 : Hid (Below w.heap.size w w12) := HB11.out.trans (hb12.mono HB11.out.size)
        have HG12 := Lib.hid (HG11.out.keep hb12)
        have KP12 := Lib.hid (cell_keep hb12 KP11.out)
        have kp12 := KP12.out
        clear hb12 kp11
        go_wp2_with fail
        refine (specDegreesOf_any _ G _ HG12.out).mono ?_
        rintro e w13 ⟨n13, a13, c13, rfl, ho13, hb13⟩
        rw [HDG.out] at ho13
        obtain ⟨b13, o13, rfl, rfl, _⟩ := first_cell ho13.row
        have HB13 : Hid (Below w.heap.size w w13) := HB12.out.trans (hb13.mono HB12.out.size)
        have HG13 := Lib.hid (HG12.out.keep hb13)
        have kp13 := cell_keep hb13 KP12.out
        clear ho13 hb13 kp12
        go_wp2_with fail
        refine (implDegreesOf_any _ G _ HG13.out).mono ?_
        rintro e w14 ⟨n14, a14, c14, rfl, ho14, hb14⟩
        rw [HDG.out] at ho14
        obtain ⟨b14, o14, rfl, rfl, k14⟩ := first_cell ho14.row
        have HB14 : Hid (Below w.heap.size w w14) := HB13.out.trans (hb14.mono HB13.out.size)
        clear ho14 hb14 kp13
        go_wp2
        go_ret
        exact ⟨rfl, HB14.out⟩
      · obtain ⟨G, hG⟩ : ∃ G, G = kneL 5 := ⟨_, rfl⟩
        have HI2 : Hid (∀ W, Calls Try.prog 34 #[.int .i64 5] W (GaveGB W G true)) := fun W => by rw [hG]; exact implKneserGraph_any 5 W
        have HS2 : Hid (∀ W, Calls Try.prog 35 #[.int .i64 5] W (GaveGB W G true)) := fun W => by rw [hG]; exact specKneserGraph_any 5 W
        have HSM2 : Hid (sameB G G = true) := same_self (by rw [hG]; exact kne_graph (by omega) (by omega))
        have HDG : Hid (degL G = List.replicate (9 + 1) 3) := by show _ = _; rw [hG]; exact kne_deg5
        clear hG
        go_wp2_with fail
        refine (HI2.out _).mono ?_
        rintro e w8 ⟨m8, a8, c8, rfl, ho8, hb8⟩
        have HG8 := Lib.hid ho8.grid
        have HB8 : Hid (Below w.heap.size w w8) := HB7.out.trans (hb8.mono HB7.out.size)
        have hst : Below w8.heap.size w8 (w8.alloc (.cells #[.slice a8 m8 c8] 30)) := (Below.refl _ _).alloc (Nat.le_refl _) _
        have HB9 : Hid (Below w.heap.size w (w8.alloc (.cells #[.slice a8 m8 c8] 30))) := HB8.out.alloc HB8.out.size _
        have HG9 := Lib.hid (HG8.out.keep hst)
        have HK9 := Lib.hid (BoxAt.new w8 (.slice a8 m8 c8) 30).1
        clear ho8 hb8 hst
        go_wp2_with fail
        generalize w8.alloc (.cells #[.slice a8 m8 c8] 30) = w9 at HB9 HG9 HK9 ⊢
        refine (HS2.out _).mono ?_
        rintro e w10 ⟨m10, a10, c10, rfl, ho10, hb10⟩
        have HB10 : Hid (Below w.heap.size w w10) := HB9.out.trans (hb10.mono HB9.out.size)
        have hst : Below w10.heap.size w10 (w10.alloc (.cells #[.slice a10 m10 c10] 30)) := (Below.refl _ _).alloc (Nat.le_refl _) _
        have HB11 : Hid (Below w.heap.size w (w10.alloc (.cells #[.slice a10 m10 c10] 30))) := HB10.out.alloc HB10.out.size _
        have HG11 := Lib.hid ((HG9.out.keep hb10).keep hst)
        have HW11 := Lib.hid (ho10.grid.keep hst)
        have KP11 := Lib.hid (cell_keep hst (cell_keep hb10 HK9.out))
        have kp11 := KP11.out
        clear ho10 hb10 hst
        go_wp2_with fail
        generalize w10.alloc (.cells #[.slice a10 m10 c10] 30) = w11 at HB11 HG11 HW11 KP11 kp11 ⊢
        refine (specSameGraph_any _ _ G G _ HG11.out HW11.out).mono ?_
        rintro e w12 ⟨rfl, hb12⟩
        rw [HSM2.out]
        have HB12 : Hid (Below w.heap.size w w12) := HB11.out.trans (hb12.mono HB11.out.size)
        have HG12 := Lib.hid (HG11.out.keep hb12)
        have KP12 := Lib.hid (cell_keep hb12 KP11.out)
        have kp12 := KP12.out
        clear hb12 kp11
        go_wp2_with fail
        refine (specDegreesOf_any _ G _ HG12.out).mono ?_
        rintro e w13 ⟨n13, a13, c13, rfl, ho13, hb13⟩
        rw [HDG.out] at ho13
        obtain ⟨b13, o13, rfl, rfl, _⟩ := first_cell ho13.row
        have HB13 : Hid (Below w.heap.size w w13) := HB12.out.trans (hb13.mono HB12.out.size)
        have HG13 := Lib.hid (HG12.out.keep hb13)
        have kp13 := cell_keep hb13 KP12.out
        clear ho13 hb13 kp12
        go_wp2_with fail
        refine (implDegreesOf_any _ G _ HG13.out).mono ?_
        rintro e w14 ⟨n14, a14, c14, rfl, ho14, hb14⟩
        rw [HDG.out] at ho14
        obtain ⟨b14, o14, rfl, rfl, k14⟩ := first_cell ho14.row
        have HB14 : Hid (Below w.heap.size w w14) := HB13.out.trans (hb14.mono HB13.out.size)
        clear ho14 hb14 kp13
        go_wp2
        go_ret
        exact ⟨rfl, HB14.out⟩
      · obtain ⟨G, hG⟩ : ∃ G, G = kneL 6 := ⟨_, rfl⟩
        have HI2 : Hid (∀ W, Calls Try.prog 34 #[.int .i64 6] W (GaveGB W G true)) := fun W => by rw [hG]; exact implKneserGraph_any 6 W
        have HS2 : Hid (∀ W, Calls Try.prog 35 #[.int .i64 6] W (GaveGB W G true)) := fun W => by rw [hG]; exact specKneserGraph_any 6 W
        have HSM2 : Hid (sameB G G = true) := same_self (by rw [hG]; exact kne_graph (by omega) (by omega))
        have HDG : Hid (degL G = List.replicate (14 + 1) 6) := by show _ = _; rw [hG]; exact kne_deg6
        clear hG
        go_wp2_with fail
        refine (HI2.out _).mono ?_
        rintro e w8 ⟨m8, a8, c8, rfl, ho8, hb8⟩
        have HG8 := Lib.hid ho8.grid
        have HB8 : Hid (Below w.heap.size w w8) := HB7.out.trans (hb8.mono HB7.out.size)
        have hst : Below w8.heap.size w8 (w8.alloc (.cells #[.slice a8 m8 c8] 30)) := (Below.refl _ _).alloc (Nat.le_refl _) _
        have HB9 : Hid (Below w.heap.size w (w8.alloc (.cells #[.slice a8 m8 c8] 30))) := HB8.out.alloc HB8.out.size _
        have HG9 := Lib.hid (HG8.out.keep hst)
        have HK9 := Lib.hid (BoxAt.new w8 (.slice a8 m8 c8) 30).1
        clear ho8 hb8 hst
        go_wp2_with fail
        generalize w8.alloc (.cells #[.slice a8 m8 c8] 30) = w9 at HB9 HG9 HK9 ⊢
        refine (HS2.out _).mono ?_
        rintro e w10 ⟨m10, a10, c10, rfl, ho10, hb10⟩
        have HB10 : Hid (Below w.heap.size w w10) := HB9.out.trans (hb10.mono HB9.out.size)
        have hst : Below w10.heap.size w10 (w10.alloc (.cells #[.slice a10 m10 c10] 30)) := (Below.refl _ _).alloc (Nat.le_refl _) _
        have HB11 : Hid (Below w.heap.size w (w10.alloc (.cells #[.slice a10 m10 c10] 30))) := HB10.out.alloc HB10.out.size _
        have HG11 := Lib.hid ((HG9.out.keep hb10).keep hst)
        have HW11 := Lib.hid (ho10.grid.keep hst)
        have KP11 := Lib.hid (cell_keep hst (cell_keep hb10 HK9.out))
        have kp11 := KP11.out
        clear ho10 hb10 hst
        go_wp2_with fail
        generalize w10.alloc (.cells #[.slice a10 m10 c10] 30) = w11 at HB11 HG11 HW11 KP11 kp11 ⊢
        refine (specSameGraph_any _ _ G G _ HG11.out HW11.out).mono ?_
        rintro e w12 ⟨rfl, hb12⟩
        rw [HSM2.out]
        have HB12 : Hid (Below w.heap.size w w12) := HB11.out.trans (hb12.mono HB11.out.size)
        have HG12 := Lib.hid (HG11.out.keep hb12)
        have KP12 := Lib.hid (cell_keep hb12 KP11.out)
        have kp12 := KP12.out
        clear hb12 kp11
        go_wp2_with fail
        refine (specDegreesOf_any _ G _ HG12.out).mono ?_
        rintro e w13 ⟨n13, a13, c13, rfl, ho13, hb13⟩
        rw [HDG.out] at ho13
        obtain ⟨b13, o13, rfl, rfl, _⟩ := first_cell ho13.row
        have HB13 : Hid (Below w.heap.size w w13) := HB12.out.trans (hb13.mono HB12.out.size)
        have HG13 := Lib.hid (HG12.out.keep hb13)
        have kp13 := cell_keep hb13 KP12.out
        clear ho13 hb13 kp12
        go_wp2_with fail
        refine (implDegreesOf_any _ G _ HG13.out).mono ?_
        rintro e w14 ⟨n14, a14, c14, rfl, ho14, hb14⟩
        rw [HDG.out] at ho14
        obtain ⟨b14, o14, rfl, rfl, k14⟩ := first_cell ho14.row
        have HB14 : Hid (Below w.heap.size w w14) := HB13.out.trans (hb14.mono HB13.out.size)
        clear ho14 hb14 kp13
        go_wp2
        go_ret
        exact ⟨rfl, HB14.out⟩
    · have hin' : inB q 4 6 = false := by simpa using hin
      have HI2 : Hid (∀ W, Calls Try.prog 34 #[.int .i64 q] W (GaveGB W (genL false (tri q.toNat) (kneR q.toNat)) false)) := fun W => by have h := implKneserGraph_any q W; rwa [hin'] at h
      have HS2 : Hid (∀ W, Calls Try.prog 35 #[.int .i64 q] W (GaveGB W (genL false (tri q.toNat) (kneR q.toNat)) false)) := fun W => by have h := specKneserGraph_any q W; rwa [hin'] at h
      clear hin hin' hq1 hq2
      go_wp2_with fail
      refine (HI2.out _).mono ?_
      rintro e w8 ⟨m8, a8, c8, rfl, ho8, hb8⟩
      have HB8 : Hid (Below w.heap.size w w8) := HB7.out.trans (hb8.mono HB7.out.size)
      have HB9 : Hid (Below w.heap.size w (w8.alloc (.cells #[.slice a8 m8 c8] 30))) := HB8.out.alloc HB8.out.size _
      clear ho8 hb8
      go_wp2_with fail
      generalize w8.alloc (.cells #[.slice a8 m8 c8] 30) = w9 at HB9 ⊢
      refine (HS2.out _).mono ?_
      rintro e w10 ⟨m10, a10, c10, rfl, ho10, hb10⟩
      have HB10 : Hid (Below w.heap.size w w10) := HB9.out.trans (hb10.mono HB9.out.size)
      have HB11 : Hid (Below w.heap.size w (w10.alloc (.cells #[.slice a10 m10 c10] 30))) := HB10.out.alloc HB10.out.size _
      clear ho10 hb10
      go_wp2
      go_ret
      exact ⟨rfl, HB11.out⟩

end Go.Proofs.Ytojbaepcflkgeaa
