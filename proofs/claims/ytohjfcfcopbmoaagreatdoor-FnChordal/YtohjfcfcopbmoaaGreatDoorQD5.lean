/- The texts D5, E3, joined. -/
import Derived.Test.YtohjfcfcopbmoaaGreatDoorQGrid
import Derived.Test.YtohjfcfcopbmoaaGreatDoorQE1

/- Walks: EdgesOf. -/
namespace Go.Proofs.YtohjfcfcopbmoaaGreatDoor
open Go.RowKit

set_option maxHeartbeats 1600000 in
set_option maxRecDepth 100000 in
theorem implEdgesOf_any (v : Value) (L : List (List Int)) (w : World) (h : GridAt w v L) :
    Calls Tryz.prog 74 #[.agg #[v]] w (GaveGrid w (edgesL L)) := by
  obtain ⟨a0, c0, rfl⟩ := h.slice
  have ha : Below w.heap.size w (w.alloc (.cells #[.slice a0 L.length c0] 26)) := (Below.refl _ _).alloc (Nat.le_refl _) _
  have hk := h.keep ha
  have HA := Lib.hid ha
  clear ha
  obtain ⟨i0, hi, hz0, hz1, hz2⟩ := info_parts Tryz.infoR
  go_enter Tryz.func74, Tryz.ntmps74
  go_wp2_with fail
  refine (netOf_any _ _ _ hk).mono ?_
  rintro e w1 ⟨rfl, hb1⟩
  have HB1 : Hid (Below w.heap.size w w1) := HA.out.trans (hb1.mono (by simp))
  have hz : w.heap.size ≤ w1.heap.size := HB1.out.size
  have hnb := netBlk_new w1 0 (fun _ => 0)
  clear hb1 hk h HA
  by_cases hG : GraphP L
  · have hzz := hG.1
    have hsP : ∀ v, v < L.length → SetP (nthR L v) L.length := fun v hv => (hG.2.1 v hv).1
    have HE : Hid (edgesL L = edgesTo L L.length) := by show edgesL L = _; simp [edgesL, hG]
    have HIR : Hid (∀ u, u < L.length → impRow (rowM L u) u (L.length - (u + 1)) = edgesRow u (nthR L u) (nthR L u).length) := fun u hu => impRow_eq hG hu
    have HLT : Hid (∀ i, rowM L i < 65536) := fun i => rowM_lt (by omega) hsP i
    have HRL : Hid (∀ u, u < L.length → (nthR L u).length ≤ 16) := fun u hu => by have := (hG.2.1 u hu).1.len (by omega); omega
    rw [decide_eq_true hG, netArr_yes hG]
    clear hG hsP
    go_wp2_with (refine wpList_store_net rfl 83 (.tmp 3) (.tmp 11) rfl w1.heap.size L.length (rowM L) rfl rfl Tryz.sizeNet 0 (fun _ => 0) hnb ?_; intro w3 hp; have hn0 := cell_keep ((Below.refl w3.heap.size w3).alloc (Nat.le_refl _) (.cells #[] 33)) hp.net.at.1; have HNet := Lib.hid hp.net.at; have HB3 : Hid (Below w.heap.size w w3) := (HB1.out.alloc hz _).trans (hp.below.mono hz); clear hp)
    clear hn0 hnb
    go_loopw [5, 18] (fun v i wr => ∃ k : Nat, k ≤ L.length ∧ i = .int .i64 k ∧ OwnGrid 2 33 wr w3.heap.size v (edgesTo L k) ∧ Below w3.heap.size w3 wr) (fun _ i _ => L.length - (intOf i).toNat)
    case atStart => exact ⟨0, Nat.zero_le _, rfl, own_none w3 _ (Nat.le_refl _), (Below.refl _ _).alloc (Nat.le_refl _) _⟩
    case round =>
      obtain ⟨k, hk, rfl, hog, hb⟩ := hrel
      have hnet := HNet.out.keep hb
      have hn0 := hnet.1
      have HOG := Lib.hid hog
      have HB := Lib.hid hb
      clear hog
      by_cases hlt : k < L.length
      · have hlen := edgesTo_len L HRL.out k hk
        have HX := Lib.hid (HIR.out k hlt)
        clear hb hnet
        go_wp2
        go_loopw [5, 7] (fun v i w4 => ∃ m : Nat, m ≤ L.length - (k + 1) ∧ i = .int .i64 ((k + 1 + m : Nat) : Int) ∧ OwnGrid 2 33 w4 w3.heap.size v (edgesTo L k ++ impRow (rowM L k) k m) ∧ Below w3.heap.size w3 w4) (fun _ i _ => L.length - (intOf i).toNat)
        case atStart => exact ⟨0, Nat.zero_le _, by go_num, by simpa [impRow] using HOG.out, HB.out⟩
        case round =>
          rename World => w4
          obtain ⟨m, hm, rfl, hog, hb⟩ := hrel
          have hnet := HNet.out.keep hb
          have hn4 := hnet.1
          have hM4 := hnet.2 k (by omega)
          have HB4 := Lib.hid hb
          have hz4 : w3.heap.size ≤ w4.heap.size := hb.size
          have hk16 : (k : Int) < 16 := by omega
          clear hnet hb
          by_cases hml : k + 1 + m < L.length
          · have hil : (impRow (rowM L k) k m).length ≤ m := by
              have : ∀ m, (impRow (rowM L k) k m).length ≤ m := by
                intro m
                induction m with
                | zero => simp [impRow]
                | succ m ih => simp only [impRow, List.length_append]; split <;> simp <;> omega
              exact this m
            have HIS : Hid (impRow (rowM L k) k (m + 1) = impRow (rowM L k) k m ++ if hasM (rowM L k) ((k + 1 + m : Nat) : Int) = true then [[(k : Int), ((k + 1 + m : Nat) : Int)]] else []) := rfl
            have hlt4 := HLT.out k
            obtain ⟨y, hy⟩ : ∃ y : Nat, y = k + 1 + m := ⟨_, rfl⟩
            rw [← hy] at hml
            rw [← hy] at HIS
            simp only [← hy]
            have hyI : (y : Int) = (k : Int) + 1 + (m : Int) := by omega
            have HY := Lib.hid hy
            have HYI := Lib.hid hyI
            clear hy hyI
            obtain ⟨E, hE⟩ : ∃ E, E = edgesTo L k ++ impRow (rowM L k) k m := ⟨_, rfl⟩
            rw [← hE] at hog
            have hll : E.length ≤ 16 * k + m := by rw [hE, List.length_append]; omega
            have HEE := Lib.hid hE
            clear hE
            have hy16 : y ≤ 16 := by omega
            by_cases hh : hasM (rowM L k) (y : Int) = true
            · obtain ⟨R, hR, hRr, hRd⟩ := hog.owns
              have HR := Lib.hid hR
              have HRr := Lib.hid hRr
              have HRd := Lib.hid hRd
              have HES2 : Hid (edgesTo L k ++ impRow (rowM L k) k (m + 1) = E ++ [[(k : Int), (y : Int)]]) := by
                show _ = _
                rw [HIS.out, if_pos hh, HEE.out, List.append_assoc]
              have HH := Lib.hid hh
              clear hog hR hRr hRd HIS hh
              go_wp2_with (first | (go_at_call 78; refine (has_any _ _ _ hlt4).mono ?_; rintro e w' ⟨rfl, rfl⟩; rw [HH.out]) | (at_builtin; refine wpList_append_own _ rfl (.tmp 35) (.tmp 39) 24 rfl w3.heap.size 33 i0 (.slice none 0 0) 1 24 Tryz.underlying24 hi hz0 hz1 hz2 rfl (by decide) _ _ _ rfl ((HR.out.alloc _).alloc _) ⟨w4.heap.size + 1, 0, none⟩ 1 1 [.slice (some ⟨w4.heap.size, 0, none⟩) 2 2] rfl rfl ?c1 ?c2 ?c3 ?c4 ?c5 ?_))
              case c1 =>
                intro j u hj
                match j, hj with
                | 0, hj => simp at hj; subst hj; simp [Addr.add]
              case c2 => intro u hu; simp at hu; subst hu; rfl
              case c3 => unfold maxLen; omega
              case c4 => omega
              case c5 => simp; omega
              intro v' w5 hown' hgrow _
              have HO' := Lib.hid hown'
              have HGW := Lib.hid hgrow
              clear hown' hgrow
              go_wp2
              go_roundw
              case rel =>
                have hbw : Below w4.heap.size w4 ((w4.alloc (.cells #[.int .i64 (k : Int), .int .i64 (y : Int)] 2)).alloc (.cells #[.slice (some ⟨w4.heap.size, 0, none⟩) 2 2] 33)) := ((Below.refl _ _).alloc (Nat.le_refl _) _).alloc (by simp) _
                refine ⟨m + 1, by have := HY.out; omega, by have := HY.out; go_num, ?_, ?_⟩
                · rw [HES2.out]
                  refine OwnGrid.snoc (w0 := w4) (w := (w4.alloc (.cells #[.int .i64 (k : Int), .int .i64 (y : Int)] 2)).alloc (.cells #[.slice (some ⟨w4.heap.size, 0, none⟩) 2 2] 33)) (rv := .slice (some ⟨w4.heap.size, 0, none⟩) 2 2) (by decide) hbw hz4 ?_ rfl (by unfold maxLen; omega) R HR.out HRr.out HRd.out HO'.out HGW.out
                  exact (own_two (by unfold I64; omega) (by unfold I64; omega)).keep ((Below.refl _ _).alloc (Nat.le_refl _) _)
                · refine (HB4.out.trans (hbw.mono hz4)).grown HGW.out (by simp; omega) (fun j hj => ?_)
                  exact (HR.out.lt j hj).1
              case measure => simp [intOf]; omega
            · have hh' : hasM (rowM L k) (y : Int) = false := by simpa using hh
              have HES2 : Hid (edgesTo L k ++ impRow (rowM L k) k (m + 1) = E) := by
                show _ = _
                rw [HIS.out, if_neg hh, List.append_nil, HEE.out]
              have HH := Lib.hid hh'
              have HOG3 := Lib.hid hog
              clear hog HIS hh hh'
              go_wp2_with (go_at_call 78; refine (has_any _ _ _ hlt4).mono ?_; rintro e w' ⟨rfl, rfl⟩; rw [HH.out])
              go_roundw
              case rel => exact ⟨m + 1, by have := HY.out; omega, by have := HY.out; go_num, by rw [HES2.out]; exact HOG3.out, HB4.out⟩
              case measure => simp [intOf]; omega
          · obtain rfl : m = L.length - (k + 1) := by omega
            have HOG3 := Lib.hid hog
            clear hog
            go_wp2
            go_roundw
            case rel => exact ⟨k + 1, by omega, by go_num, by have := HOG3.out; rw [HX.out] at this; exact this, HB4.out⟩
            case measure => simp [intOf]; omega
      · obtain rfl : k = L.length := by omega
        obtain ⟨a5, c5, e5⟩ := HOG.out.grid.slice
        have HP : Hid (GaveGrid w (edgesL L) (.returned (.slice a5 (edgesTo L L.length).length c5)) wr) := ⟨_, _, _, rfl, by rw [HE.out, ← e5]; exact HOG.out.mono HB3.out.size, HB3.out.trans (HB.out.mono HB3.out.size)⟩
        have HO5 := Lib.hid e5
        subst e5
        clear HOG hb hnet
        go_wp2
        go_ret
        exact HP.out
  · have HE : Hid (edgesL L = []) := by show edgesL L = _; simp [edgesL, hG]
    rw [decide_eq_false hG, netArr_no hG]
    clear hG
    go_wp2_with (refine wpList_store_net rfl 83 (.tmp 3) (.tmp 11) rfl w1.heap.size 0 (fun _ => 0) rfl rfl Tryz.sizeNet 0 (fun _ => 0) hnb ?_; intro w3 hp; have HB3 : Hid (Below w.heap.size w w3) := (HB1.out.alloc hz _).trans (hp.below.mono hz); clear hp)
    go_ret
    exact ⟨0, none, 0, rfl, by rw [HE.out]; exact ⟨fun _ => undef, Nat.zero_le _, Or.inl ⟨rfl, rfl⟩, fun i hi => absurd hi (by simp), fun i j k _ hj => absurd hj (by simp)⟩, HB3.out⟩

theorem edgesL_small (L : List (List Int)) : Small (edgesL L) := by
  unfold edgesL
  split
  · rename_i hG
    have hz := hG.1
    have hrl : ∀ u, u < L.length → (nthR L u).length ≤ 16 := fun u hu => by have := (hG.2.1 u hu).1.len (by omega); omega
    have h1 := edgesTo_len L hrl L.length (Nat.le_refl _)
    have hall : ∀ u, ∀ e ∈ edgesTo L u, e.length ≤ 2 := by
      intro u
      induction u with
      | zero => simp [edgesTo]
      | succ u ih =>
        intro e he
        simp only [edgesTo, List.mem_append] at he
        rcases he with he | he
        · exact ih e he
        · have : ∀ k, ∀ e ∈ edgesRow u (nthR L u) k, e.length ≤ 2 := by
            intro k
            induction k with
            | zero => simp [edgesRow]
            | succ k ih2 =>
              intro e he
              simp only [edgesRow, List.mem_append] at he
              rcases he with he | he
              · exact ih2 e he
              · split at he
                · simp at he; rw [he]; simp
                · simp at he
          exact this _ e he
    refine ⟨by omega, fun i hi => ?_⟩
    have := hall L.length _ (nthR_mem hi)
    omega
  · exact ⟨by simp, fun i hi => absurd hi (by simp)⟩

end Go.Proofs.YtohjfcfcopbmoaaGreatDoor

/- Walks: ManyEdges. -/
namespace Go.Proofs.YtohjfcfcopbmoaaGreatDoor
open Go.RowKit

/-- A load of an array or a struct, wherever it lies. -/
theorem wpList_load_cells {P : Program} {ops : Array Oper} {rest : List Oper} {o : Oper} {a : Act} {w : World} {Q : Exit → Act → World → Prop} (hgd : o.guard = none) (ty : TypeId) (x : Operand) (ho : o.op = .load ty x)
    (ad : Addr) (hx : a.eval x = .pointer (some ad)) (cs : List Value) (hc : ∀ j v, cs[j]? = some v → w.cell? (ad.add j) = some v) (hi : (P.info? ty).map (·.size) = some cs.length) (d : TypeDesc) (hu : P.underlying ty = some d) (hd : (match d with | .struct _ | .array _ _ => true | _ => false) = true)
    (h : wpList P ops Q rest (a.put o.dst (.agg cs.toArray)) w) : wpList P ops Q (o :: rest) a w := by
  have hl := run_loadCells_list (P := P) w ad cs hc
  have hv : (loadVar ty ad).run P w = .ok (.agg cs.toArray) w := by
    cases hq : P.info? ty with
    | none => simp [hq] at hi
    | some i =>
      have hs : i.size = cs.length := by simpa [hq] using hi
      have hagg : (isAgg ty).run P w = .ok true w := by
        unfold isAgg
        rw [Sem.run_bind, run_underlying hu w]
        cases d <;> simp_all
      simp [loadVar, Sem.run_bind, hagg, sizeOf, typeInfo, hq, hs, hl]
  refine wpList_plain hgd fun _ hK => ?_
  unfold Oper.wp execOp
  simp only [ho, hx, Instr.loadAt, Instr.sureAddr, Sem.run_bind, Sem.run_pure, Result.andThen_ok, hv]
  exact hK _ _ h

/-- The masks of a net, as cells. -/
def maskCells (M : Nat → Nat) : List Value := (List.range 16).map (fun i : Nat => Value.int .u32 (M i : Int))
theorem maskCells_len (M : Nat → Nat) : (maskCells M).length = 16 := by simp [maskCells]
theorem maskCells_get (M : Nat → Nat) {i : Nat} (h : i < 16) : (maskCells M)[i]? = some (.int .u32 (M i : Int)) := by simp [maskCells, h]
theorem mask_cell (M : Nat → Nat) {j : Nat} {v : Value} (h : (maskCells M)[j]? = some v) : j < 16 ∧ v = .int .u32 (M j : Int) := by
  by_cases hj : j < 16
  · rw [maskCells_get M hj] at h
    exact ⟨hj, (Option.some.inj h).symm⟩
  · rw [List.getElem?_eq_none (by rw [maskCells_len]; omega)] at h
    cases h

theorem run_index_masks (M : Nat → Nat) (k : Nat) (hk : k < 16) (w : World) : (Instr.index 81 (.agg (maskCells M).toArray) (.int .i64 (k : Int))).run Tryz.prog w = .ok (.int .u32 (M k : Int)) w := by
  obtain ⟨i0, hi, hz0, hz1, hz2⟩ := info_parts Tryz.infoM
  have hp := run_part_int (P := Tryz.prog) w Tryz.underlying80 (maskCells M).toArray k (.int .u32 (M k : Int)) (by simpa using maskCells_get M hk)
  have hs : (sizeOf 80).run Tryz.prog w = .ok 1 w := by simp [sizeOf, typeInfo, hi, hz1, Sem.run_bind]
  have hb : (0 : Int) ≤ (k : Int) ∧ (k : Int) < ((16 : Nat) : Int) := by omega
  simp only [Instr.index, asIntOf, Sem.run_bind, Sem.run_pure, Result.andThen_ok, run_underlying Tryz.underlying81]
  simp only [hb, and_self, if_true, Sem.run_bind, hs, Result.andThen_ok, Int.toNat_natCast, Nat.mul_one, hp]

/-- What ManyEdges answers. -/
def manyN (L : List (List Int)) : Int := ((edgesL L).length : Int)

set_option maxHeartbeats 800000 in
theorem specManyEdges_any (v : Value) (L : List (List Int)) (w : World) (h : GridAt w v L) :
    Calls Tryz.prog 192 #[.agg #[v]] w fun e w' => e = .returned (.int .i64 (manyN L)) ∧ Below w.heap.size w w' := by
  obtain ⟨a0, c0, rfl⟩ := h.slice
  have ha : Below w.heap.size w (w.alloc (.cells #[.slice a0 L.length c0] 26)) := (Below.refl _ _).alloc (Nat.le_refl _) _
  have hk := h.keep ha
  have HA := Lib.hid ha
  clear ha
  go_enter Tryz.func192, Tryz.ntmps192
  go_wp2_with fail
  refine (specGraphOk_any _ _ _ hk).mono ?_
  rintro e w1 ⟨rfl, hb1⟩
  have kb1 : w1.cell? ⟨w.heap.size, 0, none⟩ = some (.slice a0 L.length c0) := by rw [hb1.cell (by simp)]; go_simp
  have R1 := Lib.hid (hk.keep hb1)
  have HB1 : Hid (Below w.heap.size w w1) := HA.out.trans (hb1.mono (by simp))
  clear hb1 hk h HA
  by_cases hG : GraphP L
  · have HE : Hid (manyN L = ((edgesTo L L.length).length : Int)) := by show manyN L = _; simp [manyN, edgesL, hG]
    have HGr := Lib.hid hG
    rw [decide_eq_true hG]
    clear hG
    go_wp2_with fail
    refine (l1Edges_any _ _ _ R1.out HGr.out).mono ?_
    rintro e w2 ⟨n2, a2, c2, rfl, ho2, hb2⟩
    have HB2 : Hid (Below w.heap.size w w2) := HB1.out.trans (hb2.mono HB1.out.size)
    have hsm := (edgesL_small L).1
    have hn2 : n2 = (edgesTo L L.length).length := by
      obtain ⟨a3, c3, e3⟩ := ho2.grid.slice
      simp only [Value.slice.injEq] at e3
      exact e3.2.1
    have hlen : n2 ≤ 1048576 := by
      rw [hn2]
      have := hsm
      unfold edgesL at this
      rw [if_pos HGr.out] at this
      exact this
    have HN2 := Lib.hid hn2
    clear hb2 ho2 hn2 hsm
    go_wp2
    go_ret
    exact ⟨ret_int (by rw [HE.out, HN2.out]), HB2.out⟩
  · have HE : Hid (manyN L = 0) := by show manyN L = _; simp [manyN, edgesL, hG]
    rw [decide_eq_false hG]
    clear hG
    go_wp2
    go_ret
    exact ⟨ret_int HE.out.symm, HB1.out⟩

set_option maxHeartbeats 1600000 in
theorem implManyEdges_any (v : Value) (L : List (List Int)) (w : World) (h : GridAt w v L) :
    Calls Tryz.prog 194 #[.agg #[v]] w fun e w' => e = .returned (.int .i64 (manyN L)) ∧ Below w.heap.size w w' := by
  obtain ⟨a0, c0, rfl⟩ := h.slice
  have ha : Below w.heap.size w (w.alloc (.cells #[.slice a0 L.length c0] 26)) := (Below.refl _ _).alloc (Nat.le_refl _) _
  have hk := h.keep ha
  have HA := Lib.hid ha
  clear ha
  have hsum : sumTo (fun i => bitsTo (netM L i) 16) 16 = 2 * (edgesL L).length := by
    by_cases hG : GraphP L
    · rw [sumTo_congr (g := fun i => bitsTo (rowM L i) 16) (fun i _ => by rw [netM_yes hG]), bits_edges hG]
      simp [edgesL, hG]
    · rw [sumTo_zero (fun i _ => by rw [netM_no hG, bitsTo_zero])]
      simp [edgesL, hG]
  have hlt : ∀ i, netM L i < 65536 := fun i => by
    by_cases hG : GraphP L
    · rw [netM_yes hG]; exact rowM_lt hG.1.2 (fun v hv => (hG.2.1 v hv).1) i
    · rw [netM_no hG]; omega
  have HSum := Lib.hid hsum
  have HLT := Lib.hid hlt
  clear hsum hlt
  go_enter Tryz.func194, Tryz.ntmps194
  go_wp2_with fail
  refine (netOf_any _ _ _ hk).mono ?_
  rintro e w1 ⟨rfl, hb1⟩
  have HB1 : Hid (Below w.heap.size w w1) := HA.out.trans (hb1.mono (by simp))
  have hz : w.heap.size ≤ w1.heap.size := HB1.out.size
  have hnb := netBlk_new w1 0 (fun _ => 0)
  clear hb1 hk h HA
  go_wp2_with (first | (refine wpList_store_net rfl 83 (.tmp 3) (.tmp 11) rfl w1.heap.size (netN L) (netM L) rfl rfl Tryz.sizeNet 0 (fun _ => 0) hnb ?_; intro w3 hp; have HNet := Lib.hid hp.net.at; have HB3 : Hid (Below w.heap.size w w3) := (HB1.out.alloc hz _).trans (hp.below.mono hz); clear hp) | (refine wpList_load_cells rfl 81 (.tmp 13) rfl ⟨w1.heap.size, 1, none⟩ rfl (maskCells (netM L)) ?hc Tryz.sizeArr _ Tryz.underlying81 rfl ?_))
  case hc =>
    intro j v hj
    obtain ⟨hj1, rfl⟩ := mask_cell _ hj
    have := HNet.out.2 j hj1
    unfold Addr.add
    split
    · rename_i e; subst e; exact this
    · exact this
  clear hnb
  go_loopw [5, 15] (fun s i wr => ∃ k : Nat, k ≤ 16 ∧ i = .int .i64 k ∧ s = .int .i64 ((sumTo (fun i => bitsTo (netM L i) 16) k : Nat) : Int) ∧ Drawn w3 wr) (fun _ i _ => 16 - (intOf i).toNat)
  case atStart => exact ⟨0, Nat.zero_le _, rfl, rfl, Drawn.refl _⟩
  case round =>
    obtain ⟨k, hk, rfl, rfl, hd⟩ := hrel
    have hsl : sumTo (fun i => bitsTo (netM L i) 16) k ≤ 16 * k := by
      clear hk
      induction k with
      | zero => simp [sumTo]
      | succ k ih => have := bitsTo_le (netM L k) 16; simp only [sumTo]; omega
    have HS : Hid (sumTo (fun i => bitsTo (netM L i) 16) (k + 1) = sumTo (fun i => bitsTo (netM L i) 16) k + bitsTo (netM L k) 16) := rfl
    generalize hg : sumTo (fun i => bitsTo (netM L i) 16) k = s at *
    have HGs := Lib.hid hg
    clear hg
    by_cases hlt : k < 16
    · have hix := run_index_masks (netM L) k hlt
      have hml := HLT.out k
      have hbl := bitsTo_le (netM L k) 16
      go_wp2_with fail
      refine (size_any _ _ hml).mono ?_
      rintro e w4 ⟨rfl, hd4⟩
      have HD := Lib.hid (hd.trans hd4)
      clear hd4 hix
      go_wp2
      go_roundw
      case rel => exact ⟨k + 1, by omega, by go_num, by rw [HS.out]; go_num, HD.out⟩
      case measure => simp [intOf]; omega
    · obtain rfl : k = 16 := by omega
      have he : Hid ((s : Int) / 2 = manyN L) := by
        show _ = _
        have h1 := HSum.out
        rw [HGs.out] at h1
        unfold manyN
        omega
      go_wp2
      go_ret
      exact ⟨ret_int (by first | exact he.out | (rw [← he.out]; omega)), HB3.out.trans (hd.below _)⟩

end Go.Proofs.YtohjfcfcopbmoaaGreatDoor
