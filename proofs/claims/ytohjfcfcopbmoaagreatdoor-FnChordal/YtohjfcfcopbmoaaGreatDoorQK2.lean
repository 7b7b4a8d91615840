/- The texts K2, K5, U4, D5, E3, joined. -/
import Derived.Test.YtohjfcfcopbmoaaGreatDoorQJ5
import Derived.Test.YtohjfcfcopbmoaaGreatDoorK1
import Derived.Test.YtohjfcfcopbmoaaGreatDoorQU2
import Derived.Deep.RegionLaw
import Derived.Test.YtohjfcfcopbmoaaGreatDoorQGrid
import Derived.Test.YtohjfcfcopbmoaaGreatDoorQE1

/- Walks: a new cursor; DrawEdgesOf; the size test of a code. -/
namespace Go.Proofs.YtohjfcfcopbmoaaGreatDoor
open Go.RowKit

set_option maxHeartbeats 1600000 in
theorem l1New_any (n : Nat) (bv : Value) (w : World) (hb : BytesAt w w.heap.size bv n) : Calls Tryz.prog 70 #[bv] w fun e w' => e = .returned (.pointer (some ⟨w.heap.size, 0, none⟩)) ∧ CurAt w' w.heap.size bv n ∧ Below w.heap.size w w' := by
  obtain ⟨hn, a, cap, rfl, hbs⟩ := hb
  have HBS := Lib.hid hbs
  clear hbs
  go_enter Tryz.func70, Tryz.ntmps70
  go_wp2
  go_loop [3, 4] (fun h i => ∃ (k : Nat) (x : Int), k ≤ n ∧ i = .int .i64 k ∧ h = .int .i64 x) (fun _ i => n - (intOf i).toNat)
  case atStart => exact ⟨0, _, Nat.zero_le _, rfl, rfl⟩
  case round =>
    obtain ⟨k, x, hk, rfl, rfl⟩ := hrel
    by_cases hlt : k < n
    · obtain ⟨b, o, rfl, hbc, hcs⟩ := HBS.out (by omega)
      obtain ⟨y, hy, hcy⟩ := hcs k hlt
      clear hcs
      go_wp2
      go_round
      case rel => exact ⟨k + 1, _, by omega, by go_num, rfl⟩
      case measure => simp [intOf]; omega
    · obtain rfl : k = n := by omega
      go_wp2
      go_ret
      exact ⟨rfl, ⟨0, x, Nat.zero_le _, heap_alloc_new _ _⟩, (Below.refl _ _).alloc (Nat.le_refl _) _⟩

end Go.Proofs.YtohjfcfcopbmoaaGreatDoor

/- Walks: DrawEdgesOf. -/
namespace Go.Proofs.YtohjfcfcopbmoaaGreatDoor
open Go.RowKit

theorem BytesAt.wide {w : World} {c c' n : Nat} {bv : Value} (h : BytesAt w c bv n) (hc : c ≤ c') : BytesAt w c' bv n := by
  obtain ⟨h1, a, cap, e, h2⟩ := h
  refine ⟨h1, a, cap, e, fun hn => ?_⟩
  obtain ⟨b, o, ea, hb, hcs⟩ := h2 hn
  exact ⟨b, o, ea, by omega, hcs⟩

end Go.Proofs.YtohjfcfcopbmoaaGreatDoor

/- Walks: a graph and a row drawn. -/
namespace Go.Proofs.YtohjfcfcopbmoaaGreatDoor
open Go.RowKit

/-- The worlds in which the row may be drawn: before or after the graph has been laid into its box. -/
structure Laid (w w1 W : World) (bv : Value) (n : Nat) (v : Value) (L : List (List Int)) (b : Nat) : Prop where
  cur : CurAt W (w.heap.size + 1) bv n
  byt : BytesAt W (w.heap.size + 1) bv n
  grid : OwnGrid 2 33 W w1.heap.size v L
  box : BoxAt W b v
  bel : Below w.heap.size w W
  lo : w.heap.size + 1 < b
  sz : b < W.heap.size
  s1 : w.heap.size + 1 < w1.heap.size

theorem Laid.drew {w w1 W : World} {bv : Value} {n : Nat} {v : Value} {L : List (List Int)} {b : Nat} (h : Laid w w1 W bv n v L b) : Laid w w1 W.drew bv n v L b :=
  have hb : Below W.heap.size W W.drew := (Below.refl _ _).drew
  ⟨h.cur.keepB hb h.cur.lt, h.byt.keepB hb (Nat.le_of_lt h.cur.lt), h.grid.keep hb, h.box.keep hb, h.bel.drew, h.lo, h.sz, h.s1⟩
theorem Laid.touched {w w1 W W' : World} {bv : Value} {n : Nat} {v : Value} {L : List (List Int)} {b : Nat} (h : Laid w w1 W bv n v L b) (ht : Touched (w.heap.size + 1) (w.heap.size + 1 + 1) W W') (hc : CurAt W' (w.heap.size + 1) bv n) : Laid w w1 W' bv n v L b :=
  ⟨hc, ht.bytes h.byt (Nat.le_of_lt h.cur.lt), h.grid.touched ht (by have := h.s1; omega), h.box.touched ht (by have := h.lo; omega) h.sz, h.bel.trans ((ht.below (Nat.le_of_lt h.cur.lt)).mono (by omega)), h.lo, by have := h.sz; have := ht.size; omega, h.s1⟩

end Go.Proofs.YtohjfcfcopbmoaaGreatDoor

/- Walks: EdgesOf. -/
namespace Go.Proofs.YtohjfcfcopbmoaaGreatDoor
open Go.RowKit

theorem edgesL_small (L : List (List Int)) : Small (edgesL L) := by
  unfold edgesL
  split
  · rename_i hG
    have hz := hG.1
    have hrl : ∀ u, u < L.length → (nthR L u).length ≤ 16 := fun u hu => by have := (hG.2.1 u hu).1.len (by omega); omega
    have h1 := edgesTo_len L hrl L.length (Nat.le_refl _)
    have hall : ∀ u, ∀ e ∈ edgesTo L u, e.length ≤ 2 := by
      intro u
      induction u with
      | zero => simp [edgesTo]
      | succ u ih =>
        intro e he
        simp only [edgesTo, List.mem_append] at he
        rcases he with he | he
        · exact ih e he
        · have : ∀ k, ∀ e ∈ edgesRow u (nthR L u) k, e.length ≤ 2 := by
            intro k
            induction k with
            | zero => simp [edgesRow]
            | succ k ih2 =>
              intro e he
              simp only [edgesRow, List.mem_append] at he
              rcases he with he | he
              · exact ih2 e he
              · split at he
                · simp at he; rw [he]; simp
                · simp at he
          exact this _ e he
    refine ⟨by omega, fun i hi => ?_⟩
    have := hall L.length _ (nthR_mem hi)
    omega
  · exact ⟨by simp, fun i hi => absurd hi (by simp)⟩

end Go.Proofs.YtohjfcfcopbmoaaGreatDoor

/- Walks: ManyEdges. -/
namespace Go.Proofs.YtohjfcfcopbmoaaGreatDoor
open Go.RowKit

/-- A load of an array or a struct, wherever it lies. -/
theorem wpList_load_cells {P : Program} {ops : Array Oper} {rest : List Oper} {o : Oper} {a : Act} {w : World} {Q : Exit → Act → World → Prop} (hgd : o.guard = none) (ty : TypeId) (x : Operand) (ho : o.op = .load ty x)
    (ad : Addr) (hx : a.eval x = .pointer (some ad)) (cs : List Value) (hc : ∀ j v, cs[j]? = some v → w.cell? (ad.add j) = some v) (hi : (P.info? ty).map (·.size) = some cs.length) (d : TypeDesc) (hu : P.underlying ty = some d) (hd : (match d with | .struct _ | .array _ _ => true | _ => false) = true)
    (h : wpList P ops Q rest (a.put o.dst (.agg cs.toArray)) w) : wpList P ops Q (o :: rest) a w := by
  have hl := run_loadCells_list (P := P) w ad cs hc
  have hv : (loadVar ty ad).run P w = .ok (.agg cs.toArray) w := by
    cases hq : P.info? ty with
    | none => simp [hq] at hi
    | some i =>
      have hs : i.size = cs.length := by simpa [hq] using hi
      have hagg : (isAgg ty).run P w = .ok true w := by
        unfold isAgg
        rw [Sem.run_bind, run_underlying hu w]
        cases d <;> simp_all
      simp [loadVar, Sem.run_bind, hagg, sizeOf, typeInfo, hq, hs, hl]
  refine wpList_plain hgd fun _ hK => ?_
  unfold Oper.wp execOp
  simp only [ho, hx, Instr.loadAt, Instr.sureAddr, Sem.run_bind, Sem.run_pure, Result.andThen_ok, hv]
  exact hK _ _ h

/-- The masks of a net, as cells. -/
def maskCells (M : Nat → Nat) : List Value := (List.range 16).map (fun i : Nat => Value.int .u32 (M i : Int))
theorem maskCells_len (M : Nat → Nat) : (maskCells M).length = 16 := by simp [maskCells]
theorem maskCells_get (M : Nat → Nat) {i : Nat} (h : i < 16) : (maskCells M)[i]? = some (.int .u32 (M i : Int)) := by simp [maskCells, h]
theorem mask_cell (M : Nat → Nat) {j : Nat} {v : Value} (h : (maskCells M)[j]? = some v) : j < 16 ∧ v = .int .u32 (M j : Int) := by
  by_cases hj : j < 16
  · rw [maskCells_get M hj] at h
    exact ⟨hj, (Option.some.inj h).symm⟩
  · rw [List.getElem?_eq_none (by rw [maskCells_len]; omega)] at h
    cases h

theorem run_index_masks (M : Nat → Nat) (k : Nat) (hk : k < 16) (w : World) : (Instr.index 81 (.agg (maskCells M).toArray) (.int .i64 (k : Int))).run Tryz.prog w = .ok (.int .u32 (M k : Int)) w := by
  obtain ⟨i0, hi, hz0, hz1, hz2⟩ := info_parts Tryz.infoM
  have hp := run_part_int (P := Tryz.prog) w Tryz.underlying80 (maskCells M).toArray k (.int .u32 (M k : Int)) (by simpa using maskCells_get M hk)
  have hs : (sizeOf 80).run Tryz.prog w = .ok 1 w := by simp [sizeOf, typeInfo, hi, hz1, Sem.run_bind]
  have hb : (0 : Int) ≤ (k : Int) ∧ (k : Int) < ((16 : Nat) : Int) := by omega
  simp only [Instr.index, asIntOf, Sem.run_bind, Sem.run_pure, Result.andThen_ok, run_underlying Tryz.underlying81]
  simp only [hb, and_self, if_true, Sem.run_bind, hs, Result.andThen_ok, Int.toNat_natCast, Nat.mul_one, hp]

/-- What ManyEdges answers. -/
def manyN (L : List (List Int)) : Int := ((edgesL L).length : Int)

set_option maxHeartbeats 800000 in
theorem specManyEdges_any (v : Value) (L : List (List Int)) (w : World) (h : GridAt w v L) :
    Calls Tryz.prog 192 #[.agg #[v]] w fun e w' => e = .returned (.int .i64 (manyN L)) ∧ Below w.heap.size w w' := by
  obtain ⟨a0, c0, rfl⟩ := h.slice
  have ha : Below w.heap.size w (w.alloc (.cells #[.slice a0 L.length c0] 26)) := (Below.refl _ _).alloc (Nat.le_refl _) _
  have hk := h.keep ha
  have HA := Lib.hid ha
  clear ha
  go_enter Tryz.func192, Tryz.ntmps192
  go_wp2_with fail
  refine (specGraphOk_any _ _ _ hk).mono ?_
  rintro e w1 ⟨rfl, hb1⟩
  have kb1 : w1.cell? ⟨w.heap.size, 0, none⟩ = some (.slice a0 L.length c0) := by rw [hb1.cell (by simp)]; go_simp
  have R1 := Lib.hid (hk.keep hb1)
  have HB1 : Hid (Below w.heap.size w w1) := HA.out.trans (hb1.mono (by simp))
  clear hb1 hk h HA
  by_cases hG : GraphP L
  · have HE : Hid (manyN L = ((edgesTo L L.length).length : Int)) := by show manyN L = _; simp [manyN, edgesL, hG]
    have HGr := Lib.hid hG
    rw [decide_eq_true hG]
    clear hG
    go_wp2_with fail
    refine (l1Edges_any _ _ _ R1.out HGr.out).mono ?_
    rintro e w2 ⟨n2, a2, c2, rfl, ho2, hb2⟩
    have HB2 : Hid (Below w.heap.size w w2) := HB1.out.trans (hb2.mono HB1.out.size)
    have hsm := (edgesL_small L).1
    have hn2 : n2 = (edgesTo L L.length).length := by
      obtain ⟨a3, c3, e3⟩ := ho2.grid.slice
      simp only [Value.slice.injEq] at e3
      exact e3.2.1
    have hlen : n2 ≤ 1048576 := by
      rw [hn2]
      have := hsm
      unfold edgesL at this
      rw [if_pos HGr.out] at this
      exact this
    have HN2 := Lib.hid hn2
    clear hb2 ho2 hn2 hsm
    go_wp2
    go_ret
    exact ⟨ret_int (by rw [HE.out, HN2.out]), HB2.out⟩
  · have HE : Hid (manyN L = 0) := by show manyN L = _; simp [manyN, edgesL, hG]
    rw [decide_eq_false hG]
    clear hG
    go_wp2
    go_ret
    exact ⟨ret_int HE.out.symm, HB1.out⟩

set_option maxHeartbeats 1600000 in
theorem implManyEdges_any (v : Value) (L : List (List Int)) (w : World) (h : GridAt w v L) :
    Calls Tryz.prog 194 #[.agg #[v]] w fun e w' => e = .returned (.int .i64 (manyN L)) ∧ Below w.heap.size w w' := by
  obtain ⟨a0, c0, rfl⟩ := h.slice
  have ha : Below w.heap.size w (w.alloc (.cells #[.slice a0 L.length c0] 26)) := (Below.refl _ _).alloc (Nat.le_refl _) _
  have hk := h.keep ha
  have HA := Lib.hid ha
  clear ha
  have hsum : sumTo (fun i => bitsTo (netM L i) 16) 16 = 2 * (edgesL L).length := by
    by_cases hG : GraphP L
    · rw [sumTo_congr (g := fun i => bitsTo (rowM L i) 16) (fun i _ => by rw [netM_yes hG]), bits_edges hG]
      simp [edgesL, hG]
    · rw [sumTo_zero (fun i _ => by rw [netM_no hG, bitsTo_zero])]
      simp [edgesL, hG]
  have hlt : ∀ i, netM L i < 65536 := fun i => by
    by_cases hG : GraphP L
    · rw [netM_yes hG]; exact rowM_lt hG.1.2 (fun v hv => (hG.2.1 v hv).1) i
    · rw [netM_no hG]; omega
  have HSum := Lib.hid hsum
  have HLT := Lib.hid hlt
  clear hsum hlt
  go_enter Tryz.func194, Tryz.ntmps194
  go_wp2_with fail
  refine (netOf_any _ _ _ hk).mono ?_
  rintro e w1 ⟨rfl, hb1⟩
  have HB1 : Hid (Below w.heap.size w w1) := HA.out.trans (hb1.mono (by simp))
  have hz : w.heap.size ≤ w1.heap.size := HB1.out.size
  have hnb := netBlk_new w1 0 (fun _ => 0)
  clear hb1 hk h HA
  go_wp2_with (first | (refine wpList_store_net rfl 83 (.tmp 3) (.tmp 11) rfl w1.heap.size (netN L) (netM L) rfl rfl Tryz.sizeNet 0 (fun _ => 0) hnb ?_; intro w3 hp; have HNet := Lib.hid hp.net.at; have HB3 : Hid (Below w.heap.size w w3) := (HB1.out.alloc hz _).trans (hp.below.mono hz); clear hp) | (refine wpList_load_cells rfl 81 (.tmp 13) rfl ⟨w1.heap.size, 1, none⟩ rfl (maskCells (netM L)) ?hc Tryz.sizeArr _ Tryz.underlying81 rfl ?_))
  case hc =>
    intro j v hj
    obtain ⟨hj1, rfl⟩ := mask_cell _ hj
    have := HNet.out.2 j hj1
    unfold Addr.add
    split
    · rename_i e; subst e; exact this
    · exact this
  clear hnb
  go_loopw [5, 15] (fun s i wr => ∃ k : Nat, k ≤ 16 ∧ i = .int .i64 k ∧ s = .int .i64 ((sumTo (fun i => bitsTo (netM L i) 16) k : Nat) : Int) ∧ Drawn w3 wr) (fun _ i _ => 16 - (intOf i).toNat)
  case atStart => exact ⟨0, Nat.zero_le _, rfl, rfl, Drawn.refl _⟩
  case round =>
    obtain ⟨k, hk, rfl, rfl, hd⟩ := hrel
    have hsl : sumTo (fun i => bitsTo (netM L i) 16) k ≤ 16 * k := by
      clear hk
      induction k with
      | zero => simp [sumTo]
      | succ k ih => have := bitsTo_le (netM L k) 16; simp only [sumTo]; omega
    have HS : Hid (sumTo (fun i => bitsTo (netM L i) 16) (k + 1) = sumTo (fun i => bitsTo (netM L i) 16) k + bitsTo (netM L k) 16) := rfl
    generalize hg : sumTo (fun i => bitsTo (netM L i) 16) k = s at *
    have HGs := Lib.hid hg
    clear hg
    by_cases hlt : k < 16
    · have hix := run_index_masks (netM L) k hlt
      have hml := HLT.out k
      have hbl := bitsTo_le (netM L k) 16
      go_wp2_with fail
      refine (size_any _ _ hml).mono ?_
      rintro e w4 ⟨rfl, hd4⟩
      have HD := Lib.hid (hd.trans hd4)
      clear hd4 hix
      go_wp2
      go_roundw
      case rel => exact ⟨k + 1, by omega, by go_num, by rw [HS.out]; go_num, HD.out⟩
      case measure => simp [intOf]; omega
    · obtain rfl : k = 16 := by omega
      have he : Hid ((s : Int) / 2 = manyN L) := by
        show _ = _
        have h1 := HSum.out
        rw [HGs.out] at h1
        unfold manyN
        omega
      go_wp2
      go_ret
      exact ⟨ret_int (by first | exact he.out | (rw [← he.out]; omega)), HB3.out.trans (hd.below _)⟩

end Go.Proofs.YtohjfcfcopbmoaaGreatDoor
