/- The texts EN3, EN4, joined. -/
import Derived.Test.YtojbaepcflkgeaaQEN1
import Derived.Test.YtojbaepcflkgeaaQX2
import Derived.Test.YtojbaepcflkgeaaQM1
import Derived.Test.YtojbaepcflkgeaaQF1

/- Walks: the iterator over all lists. -/
namespace Go.Proofs.Ytojbaepcflkgeaa
open Go.RowKit Go.Shelf

theorem made_row (w : World) (B sz : Nat) (hB : B ≤ w.heap.size) (hm : sz ≤ maxLen) : OwnRow 2 (w.alloc (.cells (madeCells #[.int .i64 0] sz) 2)) B (.slice (some ⟨w.heap.size, 0, none⟩) 0 sz) [] :=
  ⟨by simp, by simp, Or.inr ⟨w.heap.size, sz, madeCells #[.int .i64 0] sz, rfl, hB, World.alloc_heap_new w _, Nat.zero_le _, hm, by simp [size_madeCells], fun i hi => absurd hi (by simp)⟩⟩

set_option maxHeartbeats 1000000 in
set_option maxRecDepth 100000 in
theorem lists1_seq (m : Nat) (T : Nat → Prop) (w : World) (ps pn sz cf : Nat) (lb : Array Value) (C : List Int → Nat)
    (ec : ∀ args w, (callFunc cf args).run Try.prog w = .ok (.enter cf args) w) (hch : ChoiceAt T w cf lb sz C) (hC : ∀ xs, C xs < 65536) (hsz : sz ≤ 16) (hT : ∀ k, T k → k < w.heap.size)
    (ks : w.cell? ⟨ps, 0, none⟩ = some (.int .i64 (sz : Int))) (kn : w.cell? ⟨pn, 0, none⟩ = some (.func (.func cf) #[] lb)) (hps : ¬ T ps) (hpn : ¬ T pn) :
    SeqRow Fence.wide m Try.prog 118 #[.pointer (some ⟨ps, 0, none⟩), .pointer (some ⟨pn, 0, none⟩)] T sz (enumL C sz []) w := by
  intro l J Jx W hW hl1 hl2 hJ hY h0
  obtain ⟨i0, hi, hz0, hz1, hz2⟩ := info_parts Try.infoI
  have hmf : ∀ (fn : Fn) (first cap : Array Value) (w : World), (Instr.makeFunc fn first cap).run Try.prog w = .ok (.func fn first cap) w := fun _ _ _ _ => rfl
  have hmk : ∀ (w : World), (Instr.makeSlice 35 (.int .i64 0) (.int .i64 (sz : Int))).run Try.prog w = .ok (.slice (some ⟨w.heap.size, 0, none⟩) 0 sz) (w.alloc (.cells (madeCells #[.int .i64 0] sz) 2)) := fun w => by
    have := run_makeSlice (P := Try.prog) w 35 2 i0 (.int .i64 0) Try.underlying35 hi hz0 .i64 .i64 0 (sz : Int) (Int.le_refl _) (by omega) (by rw [hz1]; simp; omega) (by rw [hz2]; omega) (by omega)
    rw [hz1] at this
    simpa [Value.cells] using this
  have hlp : ps < w.heap.size := block_lt_of_cell ks
  have hln : pn < w.heap.size := block_lt_of_cell kn
  have hwW := hW.size
  obtain ⟨ext, hext⟩ : ∃ ext, ext = Value.func (.func 119) #[] #[.pointer (some ⟨ps, 0, none⟩), .pointer (some ⟨W.heap.size, 0, none⟩), .pointer (some ⟨pn, 0, none⟩), .pointer (some ⟨W.heap.size + 1, 0, none⟩)] := ⟨_, rfl⟩
  obtain ⟨W0, hW0⟩ : ∃ W0, (W.alloc (.cells #[.func (.yield l) #[] #[]] 117)).alloc (.cells #[ext] 117) = W0 := ⟨_, rfl⟩
  have hb0 : Below W.heap.size W W0 := by rw [← hW0]; exact ((Below.refl _ _).alloc (Nat.le_refl _) _).alloc (by simp) _
  have hs0 : W0.heap.size = W.heap.size + 2 := by rw [← hW0]; simp
  have ky : W0.cell? ⟨W.heap.size, 0, none⟩ = some (.func (.yield l) #[] #[]) := by rw [← hW0]; go_simp
  have ke : W0.cell? ⟨W.heap.size + 1, 0, none⟩ = some ext := by rw [← hW0]; go_simp
  have ks0 : W0.cell? ⟨ps, 0, none⟩ = some (.int .i64 (sz : Int)) := by rw [hb0.cell (by show ps < _; omega)]; exact cell_keep hW ks
  have kn0 : W0.cell? ⟨pn, 0, none⟩ = some (.func (.func cf) #[] lb) := by rw [hb0.cell (by show pn < _; omega)]; exact cell_keep hW kn
  have HCALL : Hid (∀ W1, W1 = (W0.alloc (.cells (madeCells #[.int .i64 0] sz) 2)) ∨ W1 = (W0.alloc (.cells (madeCells #[.int .i64 0] sz) 2)).drew → Calls Try.prog 119 #[.slice (some ⟨W0.heap.size, 0, none⟩) 0 sz, .pointer (some ⟨ps, 0, none⟩), .pointer (some ⟨W.heap.size, 0, none⟩), .pointer (some ⟨pn, 0, none⟩), .pointer (some ⟨W.heap.size + 1, 0, none⟩)] W1 fun e W' => ∃ t, e = .returned (.bool t) ∧ (J (enumL C sz []) W' ∨ ∃ pre, pre <+: enumL C sz [] ∧ pre ≠ [] ∧ Jx pre W')) := fun W1 hW1 => by
    have hb1 : Below W0.heap.size W0 W1 := by
      rcases hW1 with h | h
      · rw [h]; exact (Below.refl _ _).alloc (Nat.le_refl _) _
      · rw [h]; exact ((Below.refl _ _).alloc (Nat.le_refl _) _).drew
    have hbW1 : Below W.heap.size W W1 := hb0.trans (hb1.mono (by omega))
    have hs1 : W0.heap.size + 1 ≤ W1.heap.size := by
      rcases hW1 with h | h
      · rw [h, size_alloc1]; exact Nat.le_refl _
      · rw [h]; show _ ≤ (W0.alloc _).heap.size; rw [size_alloc1]; exact Nat.le_refl _
    have how : OwnRow 2 W1 W.heap.size (.slice (some ⟨W0.heap.size, 0, none⟩) 0 sz) [] := by
      have := made_row W0 W.heap.size sz (by omega) (by unfold maxLen; omega)
      rcases hW1 with h | h
      · rw [h]; exact this
      · rw [h]; exact this.keep (Below.refl _ _).drew
    refine (extend_any m T w W l ps W.heap.size pn (W.heap.size + 1) W0.heap.size sz cf lb C (enumL C sz []) J Jx ec hch hC hsz hW hl1 hl2 hT ⟨hlp, hps⟩ ⟨hln, hpn⟩ ⟨Nat.le_refl _, by omega⟩ ⟨by omega, by omega⟩ (by omega) hJ (fun pre x W1 h1 h2 h3 h4 => hY pre x W0.heap.size W1 h1 h2 (by omega) h3 h4) sz [] [] W1 (by simp) InL.nil ((KeepsBut.below hW).trans ((KeepsBut.below (T := fun _ => False) hbW1).mono (fun k h => h.elim))) hbW1.size (hJ _ _ _ h0 hbW1) ?_ how (List.prefix_rfl)).mono ?_
    · exact ⟨cell_keep hb1 ks0, cell_keep hb1 ky, cell_keep hb1 kn0, by have := cell_keep hb1 ke; rw [hext] at this; exact this⟩
    · rintro e W' ⟨t, rfl, ⟨_, h, _⟩ | ⟨_, _, h⟩⟩
      · exact ⟨t, rfl, .inl (by simpa using h)⟩
      · exact ⟨t, rfl, .inr h⟩
  refine callsIn_wide.2 ?_
  simp only [List.append_toArray, List.cons_append, List.nil_append]
  clear hY hJ h0 hch hC hW hT hps hpn ks kn
  go_enter Try.func118, Try.ntmps118
  go_wp2_with fail
  rw [← hext, hW0]
  clear hW0 hmf
  rw [hext] at ke
  have keA := cell_keep ((Below.refl W0.heap.size W0).alloc (Nat.le_refl _) (.cells (madeCells #[.int .i64 0] sz) 2)) ke
  clear hext hs0 hb0 hwW hlp hln ec hz0 hz1 hz2 hi i0 kn0 ky hl1 hl2
  go_region_law (first
    | (go_simp; go_at_call 119; refine (HCALL.out _ (by first | exact .inl rfl | exact .inr rfl)).mono ?_; rintro e W5 ⟨t, rfl, h5⟩; have H5 := Lib.hid h5; clear h5))
  all_goals (
    go_wp2
    go_end0
    exact ⟨⟨_, rfl⟩, H5.out⟩)

end Go.Proofs.Ytojbaepcflkgeaa

/- Walks: who is not in a list, who has room behind it; the choice by which a graph stands for a pattern. -/
namespace Go.Proofs.Ytojbaepcflkgeaa
open Go.RowKit Go.Shelf

/-- All of n vertices but the first k of xs. -/
def unTo (n : Nat) (xs : List Int) : Nat → Nat
  | 0 => 2 ^ n - 1
  | k + 1 => clrM (unTo n xs k) (2 ^ (nth xs k).toNat)
theorem unTo_lt {n : Nat} (hn : n ≤ 16) (xs : List Int) (k : Nat) : unTo n xs k < 65536 := by
  induction k with
  | zero => exact whole_lt hn
  | succ k ih => exact clrM_lt _ ih
theorem unTo_bit {n : Nat} (hn : n ≤ 16) {xs : List Int} (hx : InL xs) {k : Nat} (hk : k ≤ xs.length) (v : Nat) : (unTo n xs k).testBit v = true ↔ v < n ∧ ∀ j, j < k → nth xs j ≠ (v : Int) := by
  induction k with
  | zero => rw [unTo, whole_bit, decide_eq_true_iff]; exact ⟨fun h => ⟨h, fun j hj => absurd hj (by omega)⟩, fun h => h.1⟩
  | succ k ih =>
    have hxk := hx k (by omega)
    rw [unTo, clrM_bit (unTo_lt hn xs k) (pow_lt16 (by omega)), Bool.and_eq_true, ih (by omega), Nat.testBit_two_pow, Bool.not_eq_true', decide_eq_false_iff_not]
    constructor
    · rintro ⟨⟨h1, h2⟩, h3⟩
      refine ⟨h1, fun j hj => ?_⟩
      rcases Nat.lt_succ_iff_lt_or_eq.1 hj with h | rfl
      · exact h2 j h
      · omega
    · rintro ⟨h1, h2⟩
      exact ⟨⟨h1, fun j hj => h2 j (by omega)⟩, fun e => h2 k (by omega) (by omega)⟩
/-- All of n vertices but those of xs. -/
def unN (n : Nat) (xs : List Int) : Nat := unTo n xs xs.length
theorem unN_bit {n : Nat} (hn : n ≤ 16) {xs : List Int} (hx : InL xs) (v : Nat) : (unN n xs).testBit v = true ↔ v < n ∧ hasB xs (v : Int) = false := by
  unfold unN
  rw [unTo_bit hn hx (Nat.le_refl _), ← Bool.not_eq_true, hasB_iff]
  exact ⟨fun h => ⟨h.1, fun ⟨j, hj, e⟩ => h.2 j hj e⟩, fun h => ⟨h.1, fun j hj e => h.2 ⟨j, hj, e⟩⟩⟩

set_option maxHeartbeats 2000000 in
set_option maxRecDepth 100000 in
theorem unused_any (bn n : Nat) (M : Nat → Nat) (v : Value) (xs : List Int) (w : World) (h : NetAt w bn n M) (hn : n ≤ 16) (hr : RowAt w v xs) (hx : InL xs) :
    Calls Try.prog 147 #[.pointer (some ⟨bn, 0, none⟩), v] w fun e w' => e = .returned (.int .u32 (unN n xs : Int)) ∧ Below w.heap.size w w' := by
  obtain ⟨a0, c0, rfl⟩ := hr.slice
  have hl := hr.len
  unfold maxLen at hl
  have kn := h.1
  have HR := Lib.hid hr
  have HX := Lib.hid hx
  clear h hr hx
  go_enter Try.func147, Try.ntmps147
  go_wp2_with fail
  refine (wholeMask_any n _ hn).mono ?_
  rintro e w' ⟨rfl, rfl⟩
  clear kn
  go_wp2_with fail
  go_loopw [15] (fun i wr => ∃ k : Nat, k ≤ xs.length ∧ i = .int .i64 k ∧ BoxAt wr w.heap.size (.int .u32 (unTo n xs k : Int)) ∧ Below w.heap.size w wr) (fun i _ => xs.length - (intOf i).toNat)
  case atStart => exact ⟨0, Nat.zero_le _, rfl, BoxAt.new w _ _, (Below.refl _ _).alloc (Nat.le_refl _) _⟩
  case round =>
    obtain ⟨k, hk, rfl, hbx, hb⟩ := hrel
    have HBX := Lib.hid hbx
    have HB := Lib.hid hb
    have kx := hbx.1
    clear hbx hb
    by_cases hlt : k < xs.length
    · obtain ⟨b, o, c, e1, l1, l2, hc⟩ := (HR.out.keep HB.out).pos (by omega)
      simp only [Value.slice.injEq, true_and] at e1
      obtain ⟨rfl, rfl⟩ := e1
      have hck := hc k hlt
      have hxk := HX.out k hlt
      have HC := Lib.hid (cut_any w.heap.size 0 (unTo n xs k) (nth xs k) wr HBX.out.1 HBX.out.2 (unTo_lt hn _ _) hxk.1 hxk.2)
      clear hc kx
      go_wp2_with fail
      refine HC.out.mono ?_
      rintro e w3 ⟨rfl, hd3⟩
      have HB3 : Hid (Below w.heap.size w w3) := (HB.out.setCell (p := ⟨w.heap.size, 0, none⟩) (Nat.le_refl _) _).trans (hd3.below _)
      have HX3 : Hid (BoxAt w3 w.heap.size (.int .u32 (unTo n xs (k + 1) : Int))) := (HBX.out.set _).keep (hd3.below _)
      clear hd3 hck
      go_wp2
      go_roundw
      case rel => exact ⟨k + 1, by omega, by go_num, HX3.out, HB3.out⟩
      case measure => simp [intOf]; omega
    · obtain rfl : k = xs.length := by omega
      go_wp2
      go_ret
      exact ⟨rfl, HB.out⟩

/-- By the masks of a pattern: is the first near the second? -/
def patM (Mp : Nat → Nat) (i w : Nat) : Bool := (Mp w).testBit i
/-- By the masks of a graph. -/
def hostM (M : Nat → Nat) (a v : Nat) : Bool := (M a).testBit v
/-- Who has room, as far as the first k of xs tell. -/
def rmTo (Mp : Nat → Nat) (n : Nat) (M : Nat → Nat) (xs : List Int) (w k : Nat) : Nat := pm (fun v => decide (v < n) && fitTo (patM Mp) (hostM M) xs w v k)
theorem rmTo_lt (Mp : Nat → Nat) (n : Nat) (M : Nat → Nat) (xs : List Int) (w k : Nat) : rmTo Mp n M xs w k < 65536 := pm_lt _
theorem rmTo_bit {Mp : Nat → Nat} {n : Nat} {M : Nat → Nat} {xs : List Int} {w k : Nat} (hn : n ≤ 16) (v : Nat) : (rmTo Mp n M xs w k).testBit v = true ↔ v < n ∧ fitTo (patM Mp) (hostM M) xs w v k = true := by
  unfold rmTo
  rw [pm_bit, Bool.and_eq_true, Bool.and_eq_true, decide_eq_true_iff, decide_eq_true_iff]
  exact ⟨fun h => h.2, fun h => ⟨by omega, h⟩⟩
theorem rmTo_zero {Mp : Nat → Nat} {n : Nat} {M : Nat → Nat} {xs : List Int} {w : Nat} (hn : n ≤ 16) (hx : InL xs) : unN n xs = rmTo Mp n M xs w 0 := bit_ext fun v => by
  rw [unN_bit hn hx, rmTo_bit hn, fitTo, Bool.not_eq_true']
theorem rmTo_and {Mp : Nat → Nat} {n : Nat} {M : Nat → Nat} {xs : List Int} {w k : Nat} (hn : n ≤ 16) (h : (Mp w).testBit k = true) : rmTo Mp n M xs w k &&& M (nth xs k).toNat = rmTo Mp n M xs w (k + 1) := bit_ext fun v => by
  rw [Nat.testBit_and, Bool.and_eq_true, rmTo_bit hn, rmTo_bit hn, fitTo, Bool.and_eq_true, beq_iff_eq, show patM Mp k w = true from h]
  exact ⟨fun h => ⟨h.1.1, h.1.2, h.2.symm⟩, fun h => ⟨⟨h.1, h.2.1⟩, h.2.2.symm⟩⟩
theorem rmTo_not {Mp : Nat → Nat} {n : Nat} {M : Nat → Nat} (hM : ∀ i, M i < 65536) {xs : List Int} {w k : Nat} (hn : n ≤ 16) (h : (Mp w).testBit k = false) : clrM (rmTo Mp n M xs w k) (M (nth xs k).toNat) = rmTo Mp n M xs w (k + 1) := bit_ext fun v => by
  rw [clrM_bit (rmTo_lt _ _ _ _ _ _) (hM _), Bool.and_eq_true, rmTo_bit hn, rmTo_bit hn, fitTo, Bool.and_eq_true, beq_iff_eq, show patM Mp k w = false from h, Bool.not_eq_true']
  exact ⟨fun h => ⟨h.1.1, h.1.2, h.2.symm⟩, fun h => ⟨⟨h.1, h.2.1⟩, h.2.2.symm⟩⟩

set_option maxHeartbeats 2000000 in
set_option maxRecDepth 100000 in
theorem room_any (bn n : Nat) (M : Nat → Nat) (bp np : Nat) (Mp : Nat → Nat) (v : Value) (xs : List Int) (j : Nat) (w : World) (h : NetAt w bn n M) (hp : NetAt w bp np Mp) (hn : n ≤ 16) (hM : ∀ i, M i < 65536) (hMp : ∀ i, Mp i < 65536) (hr : RowAt w v xs) (hx : InL xs) (hl16 : xs.length ≤ 16) (hj : j < 16) :
    Calls Try.prog 121 #[.pointer (some ⟨bn, 0, none⟩), .pointer (some ⟨bp, 0, none⟩), v, .int .i64 (j : Int)] w fun e w' => e = .returned (.int .u32 (roomN (patM Mp) n (hostM M) xs j : Int)) ∧ Below w.heap.size w w' := by
  obtain ⟨a0, c0, rfl⟩ := hr.slice
  have HR := Lib.hid hr
  have HX := Lib.hid hx
  have HN := Lib.hid h
  have HP := Lib.hid hp
  have HM := Lib.hid hM
  have HMP := Lib.hid hMp
  clear h hr hx hp hM hMp
  go_enter Try.func121, Try.ntmps121
  go_wp2_with fail
  refine (unused_any bn n M _ xs _ HN.out hn HR.out HX.out).mono ?_
  rintro e w1 ⟨rfl, hb1⟩
  rw [rmTo_zero (Mp := Mp) (M := M) (w := j) hn HX.out]
  have HB1 := Lib.hid hb1
  have hpj := (HP.out.keep hb1).2 j hj
  have HN1 := Lib.hid (HN.out.keep hb1)
  have HR1 := Lib.hid (HR.out.keep hb1)
  have hmj := HMP.out j
  clear hb1
  go_wp2_with fail
  go_loopw [9, 17] (fun ov i wr => ∃ k : Nat, k ≤ xs.length ∧ i = .int .i64 k ∧ ov = .int .u32 (rmTo Mp n M xs j k : Int) ∧ wr = w1) (fun _ i _ => xs.length - (intOf i).toNat)
  case atStart => exact ⟨0, Nat.zero_le _, rfl, rfl, rfl⟩
  case round =>
    obtain ⟨k, hk, rfl, rfl, rfl⟩ := hrel
    have hrl := rmTo_lt Mp n M xs j k
    by_cases hlt : k < xs.length
    · obtain ⟨b, o, c, e1, l1, l2, hc⟩ := HR1.out.pos (by omega)
      simp only [Value.slice.injEq, true_and] at e1
      obtain ⟨rfl, rfl⟩ := e1
      have hck := hc k hlt
      have hxk := HX.out k hlt
      obtain ⟨x, hxe⟩ : ∃ x : Nat, nth xs k = (x : Int) := ⟨(nth xs k).toNat, by omega⟩
      rw [hxe] at hck hxk
      have hx16 : x < 16 := by omega
      have hcm := HN1.out.2 x hx16
      have hMx := HM.out x
      have HXE := Lib.hid hxe
      clear hc hxe
      go_wp2_with fail
      refine (has_any (Mp j) (k : Int) _ hmj).mono ?_
      rintro e w' ⟨rfl, rfl⟩
      rw [hasM_nat _ _ (by omega)]
      cases hb : (Mp j).testBit k with
      | true =>
        have hbits : bits BinOp.and IntKind.u32 (rmTo Mp n M xs j k : Int) (M x : Int) = ((rmTo Mp n M xs j (k + 1) : Nat) : Int) := by
          rw [u32_and_nat _ _ (by omega) (by omega), ← rmTo_and hn hb, HXE.out, Int.toNat_natCast]
        have HBT := Lib.hid hbits
        clear hbits hb
        go_wp2
        go_roundw
        case rel => exact ⟨k + 1, by omega, by go_num, by rw [HBT.out], by first | rfl | trivial⟩
        case measure => simp [intOf]; omega
      | false =>
        have hbits : bits BinOp.andNot IntKind.u32 (rmTo Mp n M xs j k : Int) (M x : Int) = ((rmTo Mp n M xs j (k + 1) : Nat) : Int) := by
          rw [u32_andNot_nat _ _ (by omega) (by omega), ← rmTo_not HM.out hn hb, HXE.out, Int.toNat_natCast]; rfl
        have HBT := Lib.hid hbits
        clear hbits hb
        go_wp2
        go_roundw
        case rel => exact ⟨k + 1, by omega, by go_num, by rw [HBT.out], by first | rfl | trivial⟩
        case measure => simp [intOf]; omega
    · obtain rfl : k = xs.length := by omega
      go_wp2
      go_ret
      exact ⟨rfl, HB1.out⟩

theorem fitting_any (bn bp : Nat) (w : World) :
    Calls Try.prog 90 #[.pointer (some ⟨bn, 0, none⟩), .pointer (some ⟨bp, 0, none⟩)] w fun e w' =>
      e = .returned (.func (.func 120) #[] #[.pointer (some ⟨w.heap.size + 1, 0, none⟩), .pointer (some ⟨w.heap.size, 0, none⟩)]) ∧
      w' = (w.alloc (.cells #[.pointer (some ⟨bn, 0, none⟩)] 98)).alloc (.cells #[.pointer (some ⟨bp, 0, none⟩)] 98) := by
  have hmf : ∀ (fn : Fn) (first cap : Array Value) (w : World), (Instr.makeFunc fn first cap).run Try.prog w = .ok (.func fn first cap) w := fun _ _ _ _ => rfl
  go_enter Try.func90, Try.ntmps90
  go_wp2
  go_ret
  exact ⟨rfl, rfl⟩

theorem NetAt.but {T : Nat → Prop} {w w' : World} {b n : Nat} {M : Nat → Nat} (h : NetAt w b n M) (hb : KeepsBut T w w') (hT : ¬ T b) : NetAt w' b n M := ⟨hb.cell hT h.1, fun i hi => hb.cell hT (h.2 i hi)⟩

set_option maxHeartbeats 2000000 in
set_option maxRecDepth 100000 in
theorem fitting1_choice (T : Nat → Prop) (w : World) (pp pt bn n : Nat) (M : Nat → Nat) (bp np : Nat) (Mp : Nat → Nat) (kp : w.cell? ⟨pp, 0, none⟩ = some (.pointer (some ⟨bp, 0, none⟩))) (kt : w.cell? ⟨pt, 0, none⟩ = some (.pointer (some ⟨bn, 0, none⟩)))
    (h : NetAt w bn n M) (hp : NetAt w bp np Mp) (hn : n ≤ 16) (hnp : np ≤ 16) (hM : ∀ i, M i < 65536) (hMp : ∀ i, Mp i < 65536) (t1 : ¬ T pp) (t2 : ¬ T pt) (t3 : ¬ T bn) (t4 : ¬ T bp) :
    ChoiceAt T w 120 #[.pointer (some ⟨pp, 0, none⟩), .pointer (some ⟨pt, 0, none⟩)] np (wiseN (patM Mp) np n (hostM M)) := by
  intro W v xs hk hr hx hl
  have kp1 := hk.cell (a := ⟨pp, 0, none⟩) t1 kp
  have kt1 := hk.cell (a := ⟨pt, 0, none⟩) t2 kt
  have hN := h.but hk t3
  have hP := hp.but hk t4
  clear kp kt h hp hk
  obtain ⟨a0, c0, rfl⟩ := hr.slice
  have KP : Hid (∀ w', Below W.heap.size W w' → w'.cell? ⟨pp, 0, none⟩ = some (.pointer (some ⟨bp, 0, none⟩))) := fun w' hb => cell_keep hb kp1
  have KT : Hid (∀ w', Below W.heap.size W w' → w'.cell? ⟨pt, 0, none⟩ = some (.pointer (some ⟨bn, 0, none⟩))) := fun w' hb => cell_keep hb kt1
  have KN : Hid (∀ w', Below W.heap.size W w' → w'.cell? ⟨bp, 0, none⟩ = some (.int .i64 (np : Int))) := fun w' hb => cell_keep hb hP.1
  have HRM : Hid (∀ w', Below W.heap.size W w' → ∀ j : Nat, j < 16 → Calls Try.prog 121 #[.pointer (some ⟨bn, 0, none⟩), .pointer (some ⟨bp, 0, none⟩), .slice a0 xs.length c0, .int .i64 (j : Int)] w' fun e w'' => e = .returned (.int .u32 (roomN (patM Mp) n (hostM M) xs j : Int)) ∧ Below w'.heap.size w' w'') :=
    fun w' hb j hj => room_any bn n M bp np Mp _ xs j w' (hN.keep hb) (hP.keep hb) hn hM hMp (hr.keep hb) hx (by omega) hj
  clear hN hP hr hx kp1 kt1 hM hMp
  simp only [List.append_toArray, List.cons_append, List.nil_append]
  go_enter Try.func120, Try.ntmps120
  go_wp2
  go_loopw [6] (fun i wr => ∃ q : Nat, xs.length + 1 ≤ q ∧ q ≤ np ∧ i = .int .i64 q ∧ (∀ j, xs.length < j → j < q → roomN (patM Mp) n (hostM M) xs j ≠ 0) ∧ Below W.heap.size W wr) (fun i _ => np - (intOf i).toNat)
  case atStart => exact ⟨xs.length + 1, Nat.le_refl _, by omega, by go_num, fun j h1 h2 => absurd h2 (by omega), Below.refl _ _⟩
  case round =>
    obtain ⟨q, hq1, hq2, rfl, hno, hb⟩ := hrel
    have HNO := Lib.hid hno
    have HB := Lib.hid hb
    have k1 := KP.out _ hb
    have k2 := KT.out _ hb
    have k3 := KN.out _ hb
    clear hno hb
    by_cases hlt : q < np
    · go_wp2_with fail
      refine (HRM.out _ HB.out q (by omega)).mono ?_
      rintro e w3 ⟨rfl, hb3⟩
      have HB3 : Hid (Below W.heap.size W w3) := HB.out.trans (hb3.mono HB.out.size)
      clear hb3 k1 k2 k3
      by_cases h0 : roomN (patM Mp) n (hostM M) xs q = 0
      · have HW : Hid (wiseN (patM Mp) np n (hostM M) xs = 0) := by show _ = _; unfold wiseN; rw [if_pos ⟨q, hlt, by omega, h0⟩]
        rw [h0]
        clear h0
        go_wp2
        go_ret
        exact ⟨by rw [HW.out]; rfl, HB3.out⟩
      · have qb : ((roomN (patM Mp) n (hostM M) xs q : Int) == 0) = false := by rw [beq_eq_false_iff_ne]; omega
        have qb2 : ((roomN (patM Mp) n (hostM M) xs q) == 0) = false := by rw [beq_eq_false_iff_ne]; exact h0
        have H0 := Lib.hid h0
        clear h0
        go_wp2
        go_roundw
        case rel =>
          refine ⟨q + 1, by omega, by omega, by go_num, fun j h1 h2 => ?_, HB3.out⟩
          rcases Nat.lt_succ_iff_lt_or_eq.1 h2 with h | rfl
          · exact HNO.out j h1 h
          · exact H0.out
        case measure => simp [intOf]; omega
    · obtain rfl : q = np := by omega
      have HW : Hid (wiseN (patM Mp) q n (hostM M) xs = roomN (patM Mp) n (hostM M) xs xs.length) := by
        show _ = _
        unfold wiseN
        rw [if_neg]
        · rfl
        · rintro ⟨j, h1, h2, h3⟩
          exact HNO.out j h2 h1 h3
      go_wp2_with fail
      refine (HRM.out _ HB.out xs.length (by omega)).mono ?_
      rintro e w3 ⟨rfl, hb3⟩
      have HB3 : Hid (Below W.heap.size W w3) := HB.out.trans (hb3.mono HB.out.size)
      clear hb3 k1 k2 k3
      go_wp2
      go_ret
      exact ⟨by rw [HW.out]; rfl, HB3.out⟩

end Go.Proofs.Ytojbaepcflkgeaa
