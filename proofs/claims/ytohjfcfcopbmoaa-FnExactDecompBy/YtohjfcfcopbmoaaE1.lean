/- Walks: how many bits a mask has. -/
import Derived.Test.YtohjfcfcopbmoaaQB1

namespace Go.Proofs.Ytohjfcfcopbmoaa
open Go.RowKit

/-- How many of the lowest n bits of M are set. -/
def bitsTo (M : Nat) : Nat → Nat
  | 0 => 0
  | n + 1 => bitsTo M n + if M.testBit n then 1 else 0
theorem bitsTo_le (M n : Nat) : bitsTo M n ≤ n := by
  induction n with
  | zero => simp [bitsTo]
  | succ n ih => simp only [bitsTo]; split <;> omega

theorem quiet_index_string {P : Program} {C : World → Prop} {o : Oper} {a : Act} {K : Act → Prop} (t : TypeId) (x y : Operand) (ho : o.op = .index t x y) (s : ByteArray) (k : IntKind) (z : Int) (hx : a.eval x = .string s) (hy : a.eval y = .int k z)
    (ht : P.underlying t = some .string) (h0 : 0 ≤ z) (q : Nat) (hb : (s[z.toNat]?).map (fun b => b.toNat) = some q) (hk : K (a.put o.dst (.int .u8 (q : Int)))) : o.quiet P a C K := by
  refine ⟨.int .u8 (q : Int), fun w _ => ?_, hk⟩
  obtain ⟨b, hb1, hb2⟩ := Option.map_eq_some_iff.1 hb
  unfold Oper.quietAt
  simp [execOp, ho, hx, hy, Instr.index, asIntOf, Sem.run_bind, run_underlying ht, h0, hb1, hb2, Result.andThen, Oper.quietUpon]

/-- A table of 256 bytes whose byte i tells how many bits i has. -/
def isTab (s : ByteArray) : Bool := (List.range 256).all (fun i => (s[i]?).map (fun b => b.toNat) == some (bitsTo i 8))
theorem tab_at (s : ByteArray) (h : isTab s = true) (i : Nat) (hi : i < 256) : (s[((i : Nat) : Int).toNat]?).map (fun b => b.toNat) = some (bitsTo i 8) := by
  rw [Int.toNat_natCast]
  have := List.all_eq_true.1 h i (List.mem_range.2 hi)
  simpa using this

theorem and255 (M : Nat) (hM : M < 4294967296) : bits BinOp.and IntKind.u32 (M : Int) 255 = ((M % 256 : Nat) : Int) := by
  have h3 : (255 : Int) = ((255 : Nat) : Int) := rfl
  rw [h3, u32_and_nat _ _ hM (by omega)]
  have : M &&& 255 = M % 256 := by
    have := Nat.and_two_pow_sub_one_eq_mod M 8
    simpa using this
  rw [this]

set_option maxHeartbeats 4000000 in
set_option maxRecDepth 100000 in
theorem ones_var (M i0 i1 i2 i3 t1 t2 q0 q1 q2 q3 : Nat) (w : World) (e24 : (M : Int) / 16777216 = (i0 : Int)) (e16 : (M : Int) / 65536 = (t1 : Int)) (e8 : (M : Int) / 256 = (t2 : Int))
    (a1 : bits BinOp.and IntKind.u32 (t1 : Int) 255 = (i1 : Int)) (a2 : bits BinOp.and IntKind.u32 (t2 : Int) 255 = (i2 : Int)) (a3 : bits BinOp.and IntKind.u32 (M : Int) 255 = (i3 : Int)) (hl0 : i0 < 256) (hl1 : i1 < 256) (hl2 : i2 < 256) (hl3 : i3 < 256)
    (HQ0 : Hid (q0 = bitsTo i0 8)) (HQ1 : Hid (q1 = bitsTo i1 8)) (HQ2 : Hid (q2 = bitsTo i2 8)) (HQ3 : Hid (q3 = bitsTo i3 8)) (c0 : q0 ≤ 8) (c1 : q1 ≤ 8) (c2 : q2 ≤ 8) (c3 : q3 ≤ 8) :
    Calls Try.prog 79 #[.int .u32 M] w fun e w' => e = .returned (.int .i64 ((q0 + q1 + q2 + q3 : Nat) : Int)) ∧ Drawn w w' := by
  go_enter Try.func79, Try.ntmps79
  go_wp2
  refine wp_region_quiet_lit (by kernel_rfl) (by kernel_rfl) ?_
  repeat (go_big_quiet_step (fail))
  refine BigFrame.wpQuiet_want rfl (fun K hK => ?_)
  refine quiet_index_string 9 _ _ rfl _ .u32 _ rfl rfl Try.underlying9 ?z0 q0 ?hb0 (hK _ ?_)
  case z0 => omega
  case hb0 => rw [HQ0.out]; exact tab_at _ (by kernel_rfl) i0 hl0
  clear hK K
  simp only [Act.put, List.setIfInBounds_toArray, List.set_cons_succ, List.set_cons_zero]
  repeat (go_big_quiet_step (fail))
  refine BigFrame.wpQuiet_want rfl (fun K hK => ?_)
  refine quiet_index_string 9 _ _ rfl _ .u32 _ rfl rfl Try.underlying9 ?z1 q1 ?hb1 (hK _ ?_)
  case z1 => omega
  case hb1 => rw [HQ1.out]; exact tab_at _ (by kernel_rfl) i1 hl1
  clear hK K
  simp only [Act.put, List.setIfInBounds_toArray, List.set_cons_succ, List.set_cons_zero]
  repeat (go_big_quiet_step (fail))
  refine BigFrame.wpQuiet_want rfl (fun K hK => ?_)
  refine quiet_index_string 9 _ _ rfl _ .u32 _ rfl rfl Try.underlying9 ?z2 q2 ?hb2 (hK _ ?_)
  case z2 => omega
  case hb2 => rw [HQ2.out]; exact tab_at _ (by kernel_rfl) i2 hl2
  clear hK K
  simp only [Act.put, List.setIfInBounds_toArray, List.set_cons_succ, List.set_cons_zero]
  repeat (go_big_quiet_step (fail))
  refine BigFrame.wpQuiet_want rfl (fun K hK => ?_)
  refine quiet_index_string 9 _ _ rfl _ .u32 _ rfl rfl Try.underlying9 ?z3 q3 ?hb3 (hK _ ?_)
  case z3 => omega
  case hb3 => rw [HQ3.out]; exact tab_at _ (by kernel_rfl) i3 hl3
  clear hK K
  simp only [Act.put, List.setIfInBounds_toArray, List.set_cons_succ, List.set_cons_zero]
  repeat (go_big_quiet_step (fail))
  refine wpQuiet_nil ?_
  intro _ hw'
  obtain ⟨nq, hw''⟩ := hw'
  subst hw''
  go_wp2
  go_ret
  exact ⟨ret_int (by omega), (Drawn.refl _).more _⟩

theorem bitsTo_mod (M n : Nat) : bitsTo (M % 2 ^ n) n = bitsTo M n := by
  have : ∀ k, k ≤ n → bitsTo (M % 2 ^ n) k = bitsTo M k := by
    intro k
    induction k with
    | zero => intro _; rfl
    | succ k ih =>
      intro hk
      have h1 : (M % 2 ^ n).testBit k = M.testBit k := by rw [Nat.testBit_mod_two_pow]; simp; omega
      simp only [bitsTo, ih (by omega), h1]
  exact this n (Nat.le_refl _)
theorem bitsTo_split (M m n : Nat) : bitsTo M (m + n) = bitsTo M m + bitsTo (M / 2 ^ m) n := by
  induction n with
  | zero => simp [bitsTo]
  | succ n ih =>
    have h1 : (M / 2 ^ m).testBit n = M.testBit (m + n) := by rw [Nat.testBit_div_two_pow, Nat.add_comm]
    rw [← Nat.add_assoc]
    simp only [bitsTo, ih, h1]
    omega
theorem bitsTo_zero (n : Nat) : bitsTo 0 n = 0 := by
  induction n with
  | zero => rfl
  | succ n ih => simp [bitsTo, ih]

theorem ones_any (M : Nat) (w : World) (hM : M < 65536) :
    Calls Try.prog 79 #[.int .u32 M] w fun e w' => e = .returned (.int .i64 ((bitsTo M 16 : Nat) : Int)) ∧ Drawn w w' := by
  have h := ones_var M 0 0 (M / 256 % 256) (M % 256) 0 (M / 256) 0 0 (bitsTo (M / 256 % 256) 8) (bitsTo (M % 256) 8) w (by omega) (by omega) (by omega) (by simpa using and255 0 (by omega)) (and255 (M / 256) (by omega)) (and255 M (by omega)) (by omega) (by omega) (by omega) (by omega)
    (bitsTo_zero 8).symm (bitsTo_zero 8).symm rfl rfl (by omega) (by omega) (bitsTo_le _ _) (bitsTo_le _ _)
  have e : 0 + 0 + bitsTo (M / 256 % 256) 8 + bitsTo (M % 256) 8 = bitsTo M 16 := by
    have h1 := bitsTo_split M 8 8
    have h2 := bitsTo_mod M 8
    have h3 := bitsTo_mod (M / 256) 8
    simp only [Nat.reduceAdd, Nat.reducePow] at h1 h2 h3
    omega
  rw [e] at h
  exact h

theorem size_any (M : Nat) (w : World) (hM : M < 65536) :
    Calls Try.prog 64 #[.int .u32 M] w fun e w' => e = .returned (.int .i64 ((bitsTo M 16 : Nat) : Int)) ∧ Drawn w w' := by
  have hb := bitsTo_le M 16
  go_enter Try.func64, Try.ntmps64
  go_wp2_with fail
  refine (ones_any _ _ hM).mono ?_
  rintro e w1 ⟨rfl, hd⟩
  go_wp2
  go_ret
  exact ⟨rfl, hd⟩

end Go.Proofs.Ytohjfcfcopbmoaa
