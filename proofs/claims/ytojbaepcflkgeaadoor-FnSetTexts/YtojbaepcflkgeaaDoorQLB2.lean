/- The texts LB2, TD2, joined. -/
import Derived.Test.YtojbaepcflkgeaaDoorQLB1
import Derived.Test.YtojbaepcflkgeaaDoorTS1

/- A text bent at most twice: at most two bytes more. -/
namespace Go.Proofs.YtojbaepcflkgeaaDoor
open Go.RowKit

/-- In the midst of it. -/
structure MidB (w : World) (c nb : Nat) (bv v : Value) (l : List UInt8) (wr : World) : Prop where
  row : BRow wr w.heap.size v l
  cur : CurAt wr c bv nb
  tch : Touched c (c + 1) w wr
theorem MidB.only {w wr w' : World} {c nb : Nat} {bv v : Value} {l : List UInt8} (h : MidB w c nb bv v l wr) (hc : CurAt w' c bv nb) (ho : OnlyBlk c wr w') (hcw : c < w.heap.size) : MidB w c nb bv v l w' :=
  ⟨h.row.touched (ho.touched (Nat.le_refl _) (by omega)) hcw, hc, h.tch.only ho⟩

/-- Between the pieces of a region: the cursor, and what else may have changed. -/
structure Bnd (w4 : World) (c nb : Nat) (bv : Value) (A : World) : Prop where
  tch : Touched c (c + 1) w4 A
  cur : CurAt A c bv nb
theorem Bnd.below {w4 A A' : World} {c nb B : Nat} {bv : Value} (h : Bnd w4 c nb bv A) (hb : Below B A A') (hB : w4.heap.size ≤ B) (hcw : c < w4.heap.size) : Bnd w4 c nb bv A' :=
  ⟨h.tch.under hb hB, h.cur.keepB hb (by omega)⟩
theorem Bnd.drew {w4 A : World} {c nb : Nat} {bv : Value} (h : Bnd w4 c nb bv A) (hcw : c < w4.heap.size) : Bnd w4 c nb bv A.drew := h.below (Below.refl A.heap.size A).drew h.tch.size hcw
theorem Bnd.alloc {w4 A : World} {c nb : Nat} {bv : Value} (h : Bnd w4 c nb bv A) (hcw : c < w4.heap.size) (o : Obj) : Bnd w4 c nb bv (A.alloc o) := h.below ((Below.refl A.heap.size A).alloc (Nat.le_refl _) o) h.tch.size hcw
theorem Bnd.only {w4 A A' : World} {c nb : Nat} {bv : Value} (h : Bnd w4 c nb bv A) (hc : CurAt A' c bv nb) (ho : OnlyBlk c A A') : Bnd w4 c nb bv A' := ⟨h.tch.only ho, hc⟩
theorem Bnd.grow {w4 A A' : World} {c nb n : Nat} {bv v : Value} {us : List Value} (h : Bnd w4 c nb bv A) (hcw : c < w4.heap.size) (ho : A.ownsRow w4.heap.size 5 1 v n us) (hg : A.grownBy A' v.ownBlock) : Bnd w4 c nb bv A' :=
  h.below (((Below.refl A.heap.size A).mono h.tch.size).grown hg h.tch.size (fun j hj => (ho.lt j hj).1)) (Nat.le_refl _) hcw
/-- The bytes before q, the bytes from p on, in whatever world comes. -/
theorem BRow.front {W W' : World} {B g n c0 c q : Nat} {l : List UInt8} (h : BRow W B (.slice (some ⟨g, 0, none⟩) n c0) l) (ht : Touched c (c + 1) W W') (hc : c < B) : ∀ j u, ((l.take q).map byV)[j]? = some u → W'.cell? ((⟨g, 0, none⟩ : Addr).add j) = some u := by
  intro j u hj
  rw [List.getElem?_map, Option.map_eq_some_iff] at hj
  obtain ⟨x, hx, rfl⟩ := hj
  rw [List.getElem?_take] at hx
  split at hx
  · have hl := (List.getElem?_eq_some_iff.1 hx).1
    rw [show (⟨g, 0, none⟩ : Addr).add j = ⟨g, j, none⟩ by simp [Addr.add]; intro h; exact h.symm, ((h.touched ht hc).at hl).2.2.2.2.2.1]
    simp [List.getD_eq_getElem?_getD, hx]
  · cases hx
theorem BRow.back {W W' : World} {B g n c0 c p : Nat} {l : List UInt8} (h : BRow W B (.slice (some ⟨g, 0, none⟩) n c0) l) (ht : Touched c (c + 1) W W') (hc : c < B) : ∀ j u, ((l.drop p).map byV)[j]? = some u → W'.cell? ((⟨g, p, none⟩ : Addr).add j) = some u := by
  intro j u hj
  rw [List.getElem?_map, Option.map_eq_some_iff] at hj
  obtain ⟨x, hx, rfl⟩ := hj
  rw [List.getElem?_drop] at hx
  have hl := (List.getElem?_eq_some_iff.1 hx).1
  rw [show (⟨g, p, none⟩ : Addr).add j = ⟨g, p + j, none⟩ by simp [Addr.add], ((h.touched ht hc).at hl).2.2.2.2.2.1]
  simp [List.getD_eq_getElem?_getD, hx]
theorem bys_one (l : List UInt8) : ∀ u ∈ l.map byV, u.oneCell' = true := by
  intro u hu
  rw [List.mem_map] at hu
  obtain ⟨x, _, rfl⟩ := hu
  rfl
theorem own_only {A A' : World} {c B n : Nat} {v : Value} {us : List Value} (h : A.ownsRow B 5 1 v n us) (ho : OnlyBlk c A A') (hc : c < B) : A'.ownsRow B 5 1 v n us :=
  ⟨h.1, h.2.imp (fun h => h) (fun ⟨g, cap, cur, e, hgB, hh, r⟩ => ⟨g, cap, cur, e, hgB, by rw [ho.other g (by omega)]; exact hh, r⟩)⟩
theorem own_lit2 (W : World) (o : Obj) {B : Nat} (hB : B ≤ W.heap.size) : ((W.alloc o).alloc (.cells #[] 5)).ownsRow B 5 1 (.slice (some ⟨W.heap.size + 1, 0, none⟩) 0 0) 0 [] := by
  have := World.ownsRow_lit (e := 5) (size := 1) (W.alloc o) #[] 0 (base := B) (by rw [size_alloc1]; omega) (Nat.zero_le _) rfl
  rw [size_alloc1] at this
  exact this
theorem grow_cell {A A' : World} {b : Nat} {r : Option Nat} {u : Value} (hg : A.grownBy A' r) (h : A.cell? ⟨b, 0, none⟩ = some u) (hne : some b ≠ r) : A'.cell? ⟨b, 0, none⟩ = some u := by
  have hlt := block_lt_of_cell h
  unfold World.cell? at *
  rw [hg.block b hlt hne]
  exact h
theorem one_lit {A : World} {T : TypeId} {u0 : Value} {j : Nat} {u : Value} (hj : ([u0] : List Value)[j]? = some u) : (A.alloc (.cells #[u0] T)).cell? ((⟨A.heap.size, 0, none⟩ : Addr).add j) = some u := by
  match j, hj with
  | 0, hj => simp at hj; subst hj; simp [Addr.add]
theorem one_at {A : World} {b : Nat} {u0 : Value} (h : A.cell? ⟨b, 0, none⟩ = some u0) : ∀ j u, ([u0] : List Value)[j]? = some u → A.cell? ((⟨b, 0, none⟩ : Addr).add j) = some u := by
  intro j u hj
  match j, hj with
  | 0, hj => simp at hj; subst hj; exact h
theorem bend_done {w w4 A : World} {c nb n : Nat} {bv v : Value} {us : List Value} {l l' : List UInt8} {v0 : Value} (hm : MidB w c nb bv v0 l w4) (hB : Bnd w4 c nb bv A) (ho : A.ownsRow w4.heap.size 5 1 v n us) (hn : n = l'.length) (hu : us = l'.map byV) : MidB w c nb bv v l' A :=
  ⟨BRow.ofOwn ho hm.tch.size hn hu, hB.cur, hm.tch.trans hB.tch⟩

set_option maxHeartbeats 4000000 in
set_option maxRecDepth 100000 in
theorem l1Bend_any (c nb : Nat) (bv : Value) (s : List UInt8) (w : World) (hc : CurAt w c bv nb) (hb : BytesAt w c bv nb) (hs : s.length ≤ 800) : Calls Tryd.prog 30 #[.pointer (some ⟨c, 0, none⟩), .string (bsL s), .string (bsL [48, 49, 50, 51, 44, 45])] w (GaveBent w c bv nb s) := by
  obtain ⟨i0, hi, hz0, hz1, hz2⟩ := info_parts Tryd.infoB8
  have hcw := hc.lt
  have hsz := bsL_size s
  have hg6 : (bsL [48, 49, 50, 51, 44, 45]).size = 6 := by rw [bsL_size]; rfl
  have hcv : (convert 9 28 (.string (bsL s))).run Tryd.prog w = .ok (.slice (some ⟨w.heap.size, 0, none⟩) s.length (grownCap w (bsL s).size 0 5)) (Lib.bytesWorld w 5 (bsL s)) := by
    rw [← hsz]; exact Lib.run_convert_string_bytes w _ _ 5 (bsL s) Tryd.underlying9 Tryd.underlying28 Tryd.underlying5
  have hcap1 : s.length ≤ grownCap w (bsL s).size 0 5 := by have := grownCap_ge w (bsL s).size 0 5; omega
  have hcap2 : grownCap w (bsL s).size 0 5 ≤ maxLen := grownCap_le_maxLen w _ 0 _ (by rw [hsz]; unfold maxLen; omega)
  have hbw : Below w.heap.size w (Lib.bytesWorld w 5 (bsL s)) := Go.Joins.below_bytesWorld _ w _ _ (Nat.le_refl _)
  have HM0 : Hid (MidB w c nb bv (.slice (some ⟨w.heap.size, 0, none⟩) s.length (grownCap w (bsL s).size 0 5)) s (Lib.bytesWorld w 5 (bsL s))) := ⟨BRow.ofConv w s _ hcap1 hcap2, hc.keepB hbw hcw, Touched.ofBelow hbw⟩
  have HBY := Lib.hid hb
  generalize Lib.bytesWorld w 5 (bsL s) = w1 at hcv HM0
  generalize grownCap w (bsL s).size 0 5 = cp at hcv HM0
  clear hcap1 hcap2 hbw hc hb
  go_enter Tryd.func30, Tryd.ntmps30
  go_wp2_with fail
  refine (l1Below_any c nb bv _ _ HM0.out.cur (HM0.out.tch.bytes HBY.out (Nat.le_of_lt hcw)) (by unfold I64; omega)).mono ?_
  rintro e w2 ⟨y, rfl, hy, hc2, ho2⟩
  have hy' := hy.2 (by omega)
  obtain ⟨k0, rfl⟩ : ∃ k : Nat, y = (k : Int) := ⟨y.toNat, by omega⟩
  have hk0 : k0 ≤ 2 := by omega
  have HM1 := Lib.hid (HM0.out.only hc2 ho2 hcw)
  clear hy hy' hc2 ho2 HM0 hcv
  go_wp2_with fail
  go_loopw [7, 8] (fun v n wr => ∃ (l : List UInt8) (k : Nat), n = .int .i64 (k : Int) ∧ k ≤ 2 ∧ l.length + k ≤ s.length + 2 ∧ MidB w c nb bv v l wr) (fun _ n _ => (intOf n).toNat)
  case atStart => exact ⟨s, k0, rfl, hk0, by omega, HM1.out⟩
  case round =>
    clear HM1
    obtain ⟨l, k, rfl, hk2, hlk, hm⟩ := hrel
    obtain ⟨av, cv, rfl⟩ := hm.row.slice
    have HM := Lib.hid hm
    have hcv := hm.row.conv
    clear hm
    by_cases hgo : 0 < k ∧ 0 < l.length
    · obtain ⟨hk0, hl0⟩ := hgo
      have hkI : (0 : Int) < (k : Int) := by omega
      have hlI : (0 : Int) < (l.length : Int) := by omega
      clear hcv
      obtain ⟨k', hk'⟩ : ∃ k' : Nat, k = k' + 1 := ⟨k - 1, by omega⟩
      have HK := Lib.hid hk'
      clear hk'
      go_wp2_with fail
      refine (l1Below_any c nb bv _ _ HM.out.cur (HM.out.tch.bytes HBY.out (Nat.le_of_lt hcw)) (by unfold I64; omega)).mono ?_
      rintro e w3 ⟨y, rfl, hy, hc3, ho3⟩
      have hy' := hy.2 (by omega)
      obtain ⟨q, rfl⟩ : ∃ q : Nat, y = (q : Int) := ⟨y.toNat, by omega⟩
      have hq : q < l.length := by omega
      have HM3 := Lib.hid (HM.out.only hc3 ho3 hcw)
      clear hy hy' hc3 ho3 HM
      go_wp2_with fail
      refine (l1Below_any c nb bv _ _ HM3.out.cur (HM3.out.tch.bytes HBY.out (Nat.le_of_lt hcw)) (by unfold I64; omega)).mono ?_
      rintro e w4 ⟨r, rfl, hy, hc4, ho4⟩
      have hr := hy.2 (by omega)
      have HM4 := Lib.hid (HM3.out.only hc4 ho4 hcw)
      clear hy hc4 ho4 HM3
      obtain ⟨g, rfl⟩ : ∃ g, av = some ⟨g, 0, none⟩ := by
        rcases HM4.out.row with ⟨_, e⟩ | ⟨g, c', e, _⟩
        · rw [e] at hl0; simp at hl0
        · simp only [Value.slice.injEq] at e; exact ⟨g, e.1⟩
      obtain ⟨_, hgB, hgl, hlc, hcm, kc, kf⟩ := HM4.out.row.at hq
      have hq9 : q < 9223372036854775807 := by unfold maxLen at hcm; omega
      have hr4 : r = 0 ∨ r = 1 ∨ r = 2 ∨ r = 3 := by omega
      clear hr
      rcases hr4 with rfl | rfl | rfl | rfl
      · clear kc kf
        go_wp2_with fail
        refine (l1Below_any c nb bv _ _ HM4.out.cur (HM4.out.tch.bytes HBY.out (Nat.le_of_lt hcw)) (by unfold I64; omega)).mono ?_
        rintro e w5 ⟨z, rfl, hy, hc5, ho5⟩
        have hz := hy.2 (by omega)
        obtain ⟨z, rfl⟩ : ∃ q : Nat, z = (q : Int) := ⟨z.toNat, by omega⟩
        have hz6 : z < ([48, 49, 50, 51, 44, 45] : List UInt8).length := by show z < 6; omega
        have hix : ∀ w, (Instr.index 9 (.string (bsL [48, 49, 50, 51, 44, 45])) (.int .i64 (z : Int))).run Tryd.prog w = .ok (.int .u8 (([48, 49, 50, 51, 44, 45] : List UInt8)[z].toNat : Int)) w := fun w => idx_bytes _ z hz6 w
        obtain ⟨x, hx⟩ : ∃ x, ([48, 49, 50, 51, 44, 45] : List UInt8)[z] = x := ⟨_, rfl⟩
        rw [hx] at hix
        have HM5 := Lib.hid (HM4.out.only hc5 ho5 hcw)
        obtain ⟨_, _, _, _, _, kc, kf⟩ := HM5.out.row.at hq
        have HS := Lib.hid (HM5.out.row.set hq x)
        clear hy hz hc5 ho5 HM4 hx
        unfold byV at kc HS
        go_wp2
        go_roundw
        case rel => exact ⟨l.set q x, k', by have := HK.out; go_num, by have := HK.out; omega, by rw [List.length_set]; have := HK.out; omega, HS.out, HM5.out.cur.setOther (by simp; omega) _, HM5.out.tch.set (by simp; omega) _⟩
        case measure => simp [intOf]; have := HK.out; omega
      · have hqc : (q : Int) ≤ (cv : Int) := by omega
        have HS := Lib.hid (HM4.out.row.take hq)
        clear kc kf
        go_wp2
        go_roundw
        case rel => exact ⟨l.take q, k', by have := HK.out; go_num, by have := HK.out; omega, by rw [List.length_take]; have := HK.out; omega, HS.out, HM4.out.cur, HM4.out.tch⟩
        case measure => simp [intOf]; have := HK.out; omega
      · clear kc kf
        obtain ⟨p, hp⟩ : ∃ p : Nat, p = q + 1 := ⟨_, rfl⟩
        have HP := Lib.hid hp
        have hwp : IntKind.i64.wrap ((q : Int) + 1) = (p : Int) := by rw [IntKind.wrap_i64]; omega
        have hpl : (p : Int) ≤ (l.length : Int) := by omega
        have hqc : (q : Int) ≤ (cv : Int) := by omega
        have hpc : (p : Int) ≤ (cv : Int) := by omega
        have hcw4 : c < w4.heap.size := by have := HM4.out.tch.size; omega
        have HB4 : Hid (Bnd w4 c nb bv w4) := ⟨Touched.refl _ _ _, HM4.out.cur⟩
        have HB5 : Hid (Bnd w4 c nb bv (w4.drew.alloc (.cells #[] 5))) := (HB4.out.drew hcw4).alloc hcw4 _
        have HO5 : Hid ((w4.drew.alloc (.cells #[] 5)).ownsRow w4.heap.size 5 1 (.slice (some ⟨w4.heap.size, 0, none⟩) 0 0) 0 []) := World.ownsRow_lit _ #[] 0 (Nat.le_refl _) (Nat.zero_le _) rfl
        have HF : Hid (∀ w', Touched c (c + 1) w4 w' → ∀ j u, ((l.take q).map byV)[j]? = some u → w'.cell? ((⟨g, 0, none⟩ : Addr).add j) = some u) := fun w' ht => HM4.out.row.front ht hcw
        have HK2 : Hid (∀ w', Touched c (c + 1) w4 w' → ∀ j u, ((l.drop p).map byV)[j]? = some u → w'.cell? ((⟨g, p, none⟩ : Addr).add j) = some u) := fun w' ht => HM4.out.row.back ht hcw
        have HL1 : Hid (((l.take q).map byV).length = q * 1) := by show _ = _; simp; omega
        have HL2 : Hid (((l.drop p).map byV).length = (l.length - p) * 1) := by show _ = _; simp
        have hl9 : l.length ≤ 802 := by omega
        have HE : Hid (∀ v A, Bnd w4 c nb bv A → A.ownsRow w4.heap.size 5 1 v (0 + q + (l.length - p)) ([] ++ (l.take q).map byV ++ (l.drop p).map byV) → MidB w c nb bv v (l.take q ++ l.drop p) A) := fun v A hB ho => bend_done HM4.out hB ho (by rw [List.length_append, List.length_take, List.length_drop]; omega) (by simp)
        have HLL : Hid ((l.take q ++ l.drop p).length + k' ≤ s.length + 2) := by show _ ≤ _; rw [List.length_append, List.length_take, List.length_drop]; have := HK.out; omega
        clear hp
        by_cases hpcv : p = cv
        · have hd0 : l.drop p = [] := List.drop_eq_nil_of_le (by omega)
          have HNZ : Hid (∀ w' : World, ∀ j u, ((l.drop p).map byV)[j]? = some u → w'.cell? ((⟨g, 0, none⟩ : Addr).add j) = some u) := fun w' j u hj => by rw [hd0] at hj; simp at hj
          have HL0 : Hid (((l.drop p).map byV).length = 0 * 1) := by show _ = _; rw [hd0]; rfl
          have HE0 : Hid (∀ v A, Bnd w4 c nb bv A → A.ownsRow w4.heap.size 5 1 v (0 + q + 0) ([] ++ (l.take q).map byV ++ (l.drop p).map byV) → MidB w c nb bv v (l.take q ++ l.drop p) A) := fun v A hB ho => HE.out v A hB (by rw [show l.length - p = 0 by omega]; exact ho)
          clear hd0
          subst hpcv
          go_wp2_with fail
          go_region_law (first
            | (refine step_append_own _ (by rfl) (.tmp 47) (.tmp 50) 28 (by rfl) w4.heap.size 5 i0 (.int .u8 0) 1 1 Tryd.underlying28 hi hz0 hz1 hz2 rfl (by omega) (.slice (some ⟨w4.heap.size, 0, none⟩) 0 0) 0 [] (by rfl) HO5.out ⟨g, 0, none⟩ q p ((l.take q).map byV) (by rfl) HL1.out (HF.out _ HB5.out.tch) (bys_one _) (by unfold maxLen; omega) (by omega) HB5.out.tch.size ?_; intro v6 w6 hown6 hgrow6; have HB6 : Hid (Bnd w4 c nb bv w6) := HB5.out.grow hcw4 HO5.out hgrow6; have HO6 := Lib.hid hown6; clear hown6 hgrow6)
            | (refine step_append_own _ (by rfl) (.tmp 51) (.tmp 55) 28 (by rfl) w4.heap.size 5 i0 (.int .u8 0) 1 1 Tryd.underlying28 hi hz0 hz1 hz2 rfl (by omega) v6 (0 + q) _ (by rfl) HO6.out ⟨g, 0, none⟩ 0 0 ((l.drop p).map byV) (by rfl) HL0.out (HNZ.out _) (bys_one _) (by unfold maxLen; omega) (by omega) HB6.out.tch.size ?_; intro v7 w7 hown7 hgrow7; have HM7 : Hid (MidB w c nb bv v7 (l.take q ++ l.drop p) w7) := HE0.out _ _ (HB6.out.grow hcw4 HO6.out hgrow7) hown7; clear hown7 hgrow7))
          all_goals (
            clear hwp
            go_wp2
            go_roundw
            case rel => exact ⟨l.take q ++ l.drop p, k', by have := HK.out; go_num, by have := HK.out; omega, HLL.out, HM7.out⟩
            case measure => simp [intOf]; have := HK.out; omega)
        · have hne : (cv = p) = False := eq_false (by omega)
          have HKC := Lib.hid hpcv
          clear hpcv
          go_wp2_with fail
          go_region_law (first
            | (refine step_append_own _ (by rfl) (.tmp 47) (.tmp 50) 28 (by rfl) w4.heap.size 5 i0 (.int .u8 0) 1 1 Tryd.underlying28 hi hz0 hz1 hz2 rfl (by omega) (.slice (some ⟨w4.heap.size, 0, none⟩) 0 0) 0 [] (by rfl) HO5.out ⟨g, 0, none⟩ q cv ((l.take q).map byV) (by rfl) HL1.out (HF.out _ HB5.out.tch) (bys_one _) (by unfold maxLen; omega) (by omega) HB5.out.tch.size ?_; intro v6 w6 hown6 hgrow6; have HB6 : Hid (Bnd w4 c nb bv w6) := HB5.out.grow hcw4 HO5.out hgrow6; have HO6 := Lib.hid hown6; clear hown6 hgrow6)
            | (refine step_append_own _ (by rfl) (.tmp 51) (.tmp 55) 28 (by rfl) w4.heap.size 5 i0 (.int .u8 0) 1 1 Tryd.underlying28 hi hz0 hz1 hz2 rfl (by omega) v6 (0 + q) _ (by rfl) HO6.out ⟨g, p, none⟩ (l.length - p) (cv - p) ((l.drop p).map byV) (by rfl) HL2.out (HK2.out _ HB6.out.tch) (bys_one _) (by unfold maxLen; omega) (by omega) HB6.out.tch.size ?_; intro v7 w7 hown7 hgrow7; have HM7 : Hid (MidB w c nb bv v7 (l.take q ++ l.drop p) w7) := HE.out _ _ (HB6.out.grow hcw4 HO6.out hgrow7) hown7; clear hown7 hgrow7))
          all_goals (
            clear hwp
            go_wp2
            go_roundw
            case rel => exact ⟨l.take q ++ l.drop p, k', by have := HK.out; go_num, by have := HK.out; omega, HLL.out, HM7.out⟩
            case measure => simp [intOf]; have := HK.out; omega)
      · clear kc kf
        have hqc : (q : Int) ≤ (cv : Int) := by omega
        have hql : (q : Int) ≤ (l.length : Int) := by omega
        have hne : (cv = q) = False := eq_false (by omega)
        have hcw4 : c < w4.heap.size := by have := HM4.out.tch.size; omega
        have HBc : Hid (Bnd w4 c nb bv w4.drew) := (⟨Touched.refl _ _ _, HM4.out.cur⟩ : Bnd w4 c nb bv w4).drew hcw4
        have HBd : Hid (Bnd w4 c nb bv (w4.alloc (.cells #[] 5)).drew) := ((⟨Touched.refl _ _ _, HM4.out.cur⟩ : Bnd w4 c nb bv w4).alloc hcw4 _).drew hcw4
        have HO5 : Hid ((w4.alloc (.cells #[] 5)).drew.ownsRow w4.heap.size 5 1 (.slice (some ⟨w4.heap.size, 0, none⟩) 0 0) 0 []) := World.ownsRow_lit _ #[] 0 (Nat.le_refl _) (Nat.zero_le _) rfl
        have HF : Hid (∀ w', Touched c (c + 1) w4 w' → ∀ j u, ((l.take q).map byV)[j]? = some u → w'.cell? ((⟨g, 0, none⟩ : Addr).add j) = some u) := fun w' ht => HM4.out.row.front ht hcw
        have HK2 : Hid (∀ w', Touched c (c + 1) w4 w' → ∀ j u, ((l.drop q).map byV)[j]? = some u → w'.cell? ((⟨g, q, none⟩ : Addr).add j) = some u) := fun w' ht => HM4.out.row.back ht hcw
        have HL1 : Hid (((l.take q).map byV).length = q * 1) := by show _ = _; simp; omega
        have HL2 : Hid (((l.drop q).map byV).length = (l.length - q) * 1) := by show _ = _; simp
        have hl9 : l.length ≤ 802 := by omega
        have HE : Hid (∀ (x : UInt8) v A, Bnd w4 c nb bv A → A.ownsRow w4.heap.size 5 1 v (0 + q + 1 + (l.length - q)) ([] ++ (l.take q).map byV ++ [(.int .u8 (x.toNat : Int))] ++ (l.drop q).map byV) → MidB w c nb bv v (l.take q ++ [x] ++ l.drop q) A) := fun x v A hB ho => bend_done HM4.out hB ho (by rw [List.length_append, List.length_append, List.length_take, List.length_drop]; simp; omega) (by simp [byV])
        have HLL : Hid (∀ x : UInt8, (l.take q ++ [x] ++ l.drop q).length + k' ≤ s.length + 2) := fun x => by rw [List.length_append, List.length_append, List.length_take, List.length_drop]; have := HK.out; simp; omega
        go_wp2_with fail
        go_region_law (first
          | (go_simp; go_at_call 34; (first | (refine (l1Below_any c nb bv _ _ HBc.out.cur ((HM4.out.tch.trans HBc.out.tch).bytes HBY.out (Nat.le_of_lt hcw)) (by unfold I64; omega)).mono ?_) | (refine (l1Below_any c nb bv _ _ HBd.out.cur ((HM4.out.tch.trans HBd.out.tch).bytes HBY.out (Nat.le_of_lt hcw)) (by unfold I64; omega)).mono ?_)); rintro e w5 ⟨z, rfl, hy, hc5, ho5⟩; have hz := hy.2 (by omega); obtain ⟨z, rfl⟩ : ∃ q : Nat, z = (q : Int) := ⟨z.toNat, by omega⟩; have hz6 : z < ([48, 49, 50, 51, 44, 45] : List UInt8).length := (by show z < 6; omega); have hix : ∀ w, (Instr.index 9 (.string (bsL [48, 49, 50, 51, 44, 45])) (.int .i64 (z : Int))).run Tryd.prog w = .ok (.int .u8 (([48, 49, 50, 51, 44, 45] : List UInt8)[z].toNat : Int)) w := fun w => idx_bytes _ z hz6 w; obtain ⟨x, hx⟩ : ∃ x, ([48, 49, 50, 51, 44, 45] : List UInt8)[z] = x := ⟨_, rfl⟩; rw [hx] at hix; clear hx hy hz hz6; (first | (have HO6 := Lib.hid (own_only HO6.out ho5 (by omega))) | (have HOe := Lib.hid (own_only HO5.out ho5 hcw4)) | skip); have HBc : Hid (Bnd w4 c nb bv w5) := (by first | exact HBc.out.only hc5 ho5 | exact HBd.out.only hc5 ho5 | exact (HBc.out.alloc hcw4 _).only hc5 ho5); have hs5 : w4.heap.size ≤ w5.heap.size := HBc.out.tch.size; clear hc5 ho5)
          | (refine step_append_own _ (by rfl) (.tmp 59) (.tmp 62) 28 (by rfl) w4.heap.size 5 i0 (.int .u8 0) 1 1 Tryd.underlying28 hi hz0 hz1 hz2 rfl (by omega) (.slice (some ⟨w4.heap.size, 0, none⟩) 0 0) 0 [] (by rfl) (by first | with_reducible exact HOe.out | with_reducible exact HOe.out.alloc _ | exact HO5.out) ⟨g, 0, none⟩ q cv ((l.take q).map byV) (by rfl) HL1.out (HF.out _ (Bnd.tch (c := c) (nb := nb) (bv := bv) (by first | with_reducible exact HBc.out | with_reducible exact HBd.out | with_reducible exact HBc.out.alloc hcw4 _ | with_reducible exact (HBc.out.alloc hcw4 _).alloc hcw4 _))) (bys_one _) (by unfold maxLen; omega) (by omega) (Bnd.tch (c := c) (nb := nb) (bv := bv) (by first | with_reducible exact HBc.out | with_reducible exact HBd.out | with_reducible exact HBc.out.alloc hcw4 _ | with_reducible exact (HBc.out.alloc hcw4 _).alloc hcw4 _)).size ?_; intro v6 w6 hown6 hgrow6; (first | (have HX6 : Hid (w6.cell? ⟨w5.heap.size, 0, none⟩ = some (.int .u8 (x.toNat : Int))) := grow_cell hgrow6 (by go_simp) (by simp [Value.ownBlock]; omega)) | (have HX6 : Hid (w6.cell? ⟨w5.heap.size + 1, 0, none⟩ = some (.int .u8 (x.toNat : Int))) := grow_cell hgrow6 (by go_simp) (by simp [Value.ownBlock])) | skip); have HBc : Hid (Bnd w4 c nb bv w6) := Bnd.grow (by first | with_reducible exact HBc.out | with_reducible exact HBd.out | with_reducible exact HBc.out.alloc hcw4 _ | with_reducible exact (HBc.out.alloc hcw4 _).alloc hcw4 _) hcw4 (by first | with_reducible exact HOe.out | with_reducible exact HOe.out.alloc _ | exact HO5.out) hgrow6; have hs6 : w4.heap.size ≤ w6.heap.size := HBc.out.tch.size; have HO6 := Lib.hid hown6; clear hown6 hgrow6)
          | (refine step_append_own _ (by rfl) (.tmp 59) (.tmp 62) 28 (by rfl) w4.heap.size 5 i0 (.int .u8 0) 1 1 Tryd.underlying28 hi hz0 hz1 hz2 rfl (by omega) (.slice (some ⟨w5.heap.size, 0, none⟩) 0 0) 0 [] (by rfl) (by first | exact World.ownsRow_lit w5 #[] 0 hs5 (Nat.zero_le _) rfl | exact (World.ownsRow_lit w5 #[] 0 hs5 (Nat.zero_le _) rfl).alloc _) ⟨g, 0, none⟩ q cv ((l.take q).map byV) (by rfl) HL1.out (HF.out _ (Bnd.tch (c := c) (nb := nb) (bv := bv) (by first | with_reducible exact HBc.out | with_reducible exact HBd.out | with_reducible exact HBc.out.alloc hcw4 _ | with_reducible exact (HBc.out.alloc hcw4 _).alloc hcw4 _))) (bys_one _) (by unfold maxLen; omega) (by omega) (Bnd.tch (c := c) (nb := nb) (bv := bv) (by first | with_reducible exact HBc.out | with_reducible exact HBd.out | with_reducible exact HBc.out.alloc hcw4 _ | with_reducible exact (HBc.out.alloc hcw4 _).alloc hcw4 _)).size ?_; intro v6 w6 hown6 hgrow6; (first | (have HX6 : Hid (w6.cell? ⟨w5.heap.size, 0, none⟩ = some (.int .u8 (x.toNat : Int))) := grow_cell hgrow6 (by go_simp) (by simp [Value.ownBlock]; omega)) | (have HX6 : Hid (w6.cell? ⟨w5.heap.size + 1, 0, none⟩ = some (.int .u8 (x.toNat : Int))) := grow_cell hgrow6 (by go_simp) (by simp [Value.ownBlock])) | skip); have HBc : Hid (Bnd w4 c nb bv w6) := Bnd.grow (by first | with_reducible exact HBc.out | with_reducible exact HBd.out | with_reducible exact HBc.out.alloc hcw4 _ | with_reducible exact (HBc.out.alloc hcw4 _).alloc hcw4 _) hcw4 (by first | exact World.ownsRow_lit w5 #[] 0 hs5 (Nat.zero_le _) rfl | exact (World.ownsRow_lit w5 #[] 0 hs5 (Nat.zero_le _) rfl).alloc _) hgrow6; have hs6 : w4.heap.size ≤ w6.heap.size := HBc.out.tch.size; have HO6 := Lib.hid hown6; clear hown6 hgrow6)
          | (refine step_append_own _ (by rfl) (.tmp 59) (.tmp 62) 28 (by rfl) w4.heap.size 5 i0 (.int .u8 0) 1 1 Tryd.underlying28 hi hz0 hz1 hz2 rfl (by omega) (.slice (some ⟨w5.heap.size + 1, 0, none⟩) 0 0) 0 [] (by rfl) (by exact own_lit2 w5 (.cells #[(.int .u8 (x.toNat : Int))] 5) hs5) ⟨g, 0, none⟩ q cv ((l.take q).map byV) (by rfl) HL1.out (HF.out _ (Bnd.tch (c := c) (nb := nb) (bv := bv) (by first | with_reducible exact HBc.out | with_reducible exact HBd.out | with_reducible exact HBc.out.alloc hcw4 _ | with_reducible exact (HBc.out.alloc hcw4 _).alloc hcw4 _))) (bys_one _) (by unfold maxLen; omega) (by omega) (Bnd.tch (c := c) (nb := nb) (bv := bv) (by first | with_reducible exact HBc.out | with_reducible exact HBd.out | with_reducible exact HBc.out.alloc hcw4 _ | with_reducible exact (HBc.out.alloc hcw4 _).alloc hcw4 _)).size ?_; intro v6 w6 hown6 hgrow6; (first | (have HX6 : Hid (w6.cell? ⟨w5.heap.size, 0, none⟩ = some (.int .u8 (x.toNat : Int))) := grow_cell hgrow6 (by go_simp) (by simp [Value.ownBlock]; omega)) | (have HX6 : Hid (w6.cell? ⟨w5.heap.size + 1, 0, none⟩ = some (.int .u8 (x.toNat : Int))) := grow_cell hgrow6 (by go_simp) (by simp [Value.ownBlock])) | skip); have HBc : Hid (Bnd w4 c nb bv w6) := Bnd.grow (by first | with_reducible exact HBc.out | with_reducible exact HBd.out | with_reducible exact HBc.out.alloc hcw4 _ | with_reducible exact (HBc.out.alloc hcw4 _).alloc hcw4 _) hcw4 (by exact own_lit2 w5 (.cells #[(.int .u8 (x.toNat : Int))] 5) hs5) hgrow6; have hs6 : w4.heap.size ≤ w6.heap.size := HBc.out.tch.size; have HO6 := Lib.hid hown6; clear hown6 hgrow6)
          | (refine step_append_own _ (by rfl) (.tmp 63) (.tmp 70) 28 (by rfl) w4.heap.size 5 i0 (.int .u8 0) 1 1 Tryd.underlying28 hi hz0 hz1 hz2 rfl (by omega) v6 (0 + q) _ (by rfl) (by first | with_reducible exact HO6.out | with_reducible exact HO6.out.alloc _) ⟨w5.heap.size, 0, none⟩ 1 1 [(.int .u8 (x.toNat : Int))] (by rfl) (by rfl) (fun j u hj => one_lit hj) (fun u hu => by simp at hu; subst hu; rfl) (by unfold maxLen; omega) (by omega) (Bnd.tch (c := c) (nb := nb) (bv := bv) (by first | with_reducible exact HBc.out | with_reducible exact HBd.out | with_reducible exact HBc.out.alloc hcw4 _ | with_reducible exact (HBc.out.alloc hcw4 _).alloc hcw4 _)).size ?_; intro v7 w7 hown7 hgrow7; have HBc : Hid (Bnd w4 c nb bv w7) := Bnd.grow (by first | with_reducible exact HBc.out | with_reducible exact HBd.out | with_reducible exact HBc.out.alloc hcw4 _ | with_reducible exact (HBc.out.alloc hcw4 _).alloc hcw4 _) hcw4 (by first | with_reducible exact HO6.out | with_reducible exact HO6.out.alloc _) hgrow7; have HO7 := Lib.hid hown7; clear hown7 hgrow7)
          | (refine step_append_own _ (by rfl) (.tmp 63) (.tmp 70) 28 (by rfl) w4.heap.size 5 i0 (.int .u8 0) 1 1 Tryd.underlying28 hi hz0 hz1 hz2 rfl (by omega) v6 (0 + q) _ (by rfl) (by first | with_reducible exact HO6.out | with_reducible exact HO6.out.alloc _) ⟨w6.heap.size, 0, none⟩ 1 1 [(.int .u8 (x.toNat : Int))] (by rfl) (by rfl) (fun j u hj => one_lit hj) (fun u hu => by simp at hu; subst hu; rfl) (by unfold maxLen; omega) (by omega) (Bnd.tch (c := c) (nb := nb) (bv := bv) (by first | with_reducible exact HBc.out | with_reducible exact HBd.out | with_reducible exact HBc.out.alloc hcw4 _ | with_reducible exact (HBc.out.alloc hcw4 _).alloc hcw4 _)).size ?_; intro v7 w7 hown7 hgrow7; have HBc : Hid (Bnd w4 c nb bv w7) := Bnd.grow (by first | with_reducible exact HBc.out | with_reducible exact HBd.out | with_reducible exact HBc.out.alloc hcw4 _ | with_reducible exact (HBc.out.alloc hcw4 _).alloc hcw4 _) hcw4 (by first | with_reducible exact HO6.out | with_reducible exact HO6.out.alloc _) hgrow7; have HO7 := Lib.hid hown7; clear hown7 hgrow7)
          | (refine step_append_own _ (by rfl) (.tmp 63) (.tmp 70) 28 (by rfl) w4.heap.size 5 i0 (.int .u8 0) 1 1 Tryd.underlying28 hi hz0 hz1 hz2 rfl (by omega) v6 (0 + q) _ (by rfl) (by first | with_reducible exact HO6.out | with_reducible exact HO6.out.alloc _) ⟨w5.heap.size, 0, none⟩ 1 1 [(.int .u8 (x.toNat : Int))] (by rfl) (by rfl) (one_at HX6.out) (fun u hu => by simp at hu; subst hu; rfl) (by unfold maxLen; omega) (by omega) (Bnd.tch (c := c) (nb := nb) (bv := bv) (by first | with_reducible exact HBc.out | with_reducible exact HBd.out | with_reducible exact HBc.out.alloc hcw4 _ | with_reducible exact (HBc.out.alloc hcw4 _).alloc hcw4 _)).size ?_; intro v7 w7 hown7 hgrow7; have HBc : Hid (Bnd w4 c nb bv w7) := Bnd.grow (by first | with_reducible exact HBc.out | with_reducible exact HBd.out | with_reducible exact HBc.out.alloc hcw4 _ | with_reducible exact (HBc.out.alloc hcw4 _).alloc hcw4 _) hcw4 (by first | with_reducible exact HO6.out | with_reducible exact HO6.out.alloc _) hgrow7; have HO7 := Lib.hid hown7; clear hown7 hgrow7)
          | (refine step_append_own _ (by rfl) (.tmp 63) (.tmp 70) 28 (by rfl) w4.heap.size 5 i0 (.int .u8 0) 1 1 Tryd.underlying28 hi hz0 hz1 hz2 rfl (by omega) v6 (0 + q) _ (by rfl) (by first | with_reducible exact HO6.out | with_reducible exact HO6.out.alloc _) ⟨w5.heap.size + 1, 0, none⟩ 1 1 [(.int .u8 (x.toNat : Int))] (by rfl) (by rfl) (one_at HX6.out) (fun u hu => by simp at hu; subst hu; rfl) (by unfold maxLen; omega) (by omega) (Bnd.tch (c := c) (nb := nb) (bv := bv) (by first | with_reducible exact HBc.out | with_reducible exact HBd.out | with_reducible exact HBc.out.alloc hcw4 _ | with_reducible exact (HBc.out.alloc hcw4 _).alloc hcw4 _)).size ?_; intro v7 w7 hown7 hgrow7; have HBc : Hid (Bnd w4 c nb bv w7) := Bnd.grow (by first | with_reducible exact HBc.out | with_reducible exact HBd.out | with_reducible exact HBc.out.alloc hcw4 _ | with_reducible exact (HBc.out.alloc hcw4 _).alloc hcw4 _) hcw4 (by first | with_reducible exact HO6.out | with_reducible exact HO6.out.alloc _) hgrow7; have HO7 := Lib.hid hown7; clear hown7 hgrow7)
          | (refine step_append_own _ (by rfl) (.tmp 71) (.tmp 74) 28 (by rfl) w4.heap.size 5 i0 (.int .u8 0) 1 1 Tryd.underlying28 hi hz0 hz1 hz2 rfl (by omega) v7 (0 + q + 1) _ (by rfl) HO7.out ⟨g, q, none⟩ (l.length - q) (cv - q) ((l.drop q).map byV) (by rfl) HL2.out (HK2.out _ HBc.out.tch) (bys_one _) (by unfold maxLen; omega) (by omega) HBc.out.tch.size ?_; intro v8 w8 hown8 hgrow8; have HM8 : Hid (MidB w c nb bv v8 (l.take q ++ [x] ++ l.drop q) w8) := HE.out x _ _ (HBc.out.grow hcw4 HO7.out hgrow8) hown8; clear hown8 hgrow8))
        all_goals (
          go_wp2
          go_roundw
          case rel => exact ⟨l.take q ++ [x] ++ l.drop q, k', by have := HK.out; go_num, by have := HK.out; omega, HLL.out x, HM8.out⟩
          case measure => simp [intOf]; have := HK.out; omega)
    · have HCV := Lib.hid hcv
      by_cases hk0 : 0 < k
      · have hkI : (0 : Int) < (k : Int) := by omega
        have hlI : ¬ ((0 : Int) < (l.length : Int)) := by omega
        go_wp2
        go_ret
        exact ⟨l, rfl, by omega, HM.out.cur, HM.out.tch⟩
      · have hkI : ¬ ((0 : Int) < (k : Int)) := by omega
        go_wp2
        go_ret
        exact ⟨l, rfl, by omega, HM.out.cur, HM.out.tch⟩

end Go.Proofs.YtojbaepcflkgeaaDoor

/- A text drawn for its list. -/
namespace Go.Proofs.YtojbaepcflkgeaaDoor
open Go.RowKit

theorem drawTextSet_any (n : Nat) (bv : Value) (w : World) (hb : BytesAt w w.heap.size bv n) : Calls Tryd.prog 15 #[bv] w fun e w' => ∃ t : List UInt8, e = .returned (.string (bsL t)) ∧ t.length ≤ 802 ∧ Below w.heap.size w w' :=
  drawTextSet_of (fun c nb bv s w hc hb hs => l1Bend_any c nb bv s w hc hb hs) n bv w hb
/-- A list that has a text is the list of that text. -/
theorem stL_back {xs : List Int} (h : stL xs ≠ []) : tsB (stL xs) = true ∧ tsL (stL xs) = xs := ts_yes (SetIs.of rfl h)

open Classical in
theorem ts_back {s : List UInt8} (h : tsB s = true) : stL (tsL s) = s := by
  unfold tsB at h
  obtain ⟨xs, hx⟩ := of_decide_eq_true h
  rw [(ts_yes hx).2]
  exact hx.eq

end Go.Proofs.YtojbaepcflkgeaaDoor
