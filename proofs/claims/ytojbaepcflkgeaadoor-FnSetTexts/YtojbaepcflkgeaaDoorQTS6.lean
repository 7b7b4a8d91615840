/- The texts TS6, TS7, joined. -/
import Derived.Test.YtojbaepcflkgeaaDoorQTS4
import Derived.Test.YtojbaepcflkgeaaDoorQST1
import Derived.Test.YtojbaepcflkgeaaDoorCO1

/- Walks: the program's list of a text. -/
namespace Go.Proofs.YtojbaepcflkgeaaDoor
open Go.RowKit Go.Shelf

theorem bsL_back (b : ByteArray) : bsL b.data.toList = b := by simp [bsL]
theorem cells_owns (w : World) (D : List ByteArray) (N : Nat) (h : D.length ≤ N) (hN : N ≤ maxLen) : OwnS (w.alloc (.cells (Lib.cellsOf D N) 9)) w.heap.size (.slice (some ⟨w.heap.size, 0, none⟩) D.length N) (D.map (·.data.toList)) := by
  have hl : (D.map (·.data.toList)).length = D.length := by simp
  refine ⟨by simp, .inr ⟨w.heap.size, N, Lib.cellsOf D N, by rw [hl], Nat.le_refl _, heap_alloc_new w _, by rw [hl]; exact h, hN, by rw [Lib.cellsOf_size h, Nat.mul_one], ?_⟩⟩
  rw [hl, Nat.mul_one]
  have e : (Lib.cellsOf D N).toList = D.map Value.string ++ List.replicate (N - D.length) (Value.string ByteArray.empty) := by simp [Lib.cellsOf]
  rw [e, List.take_left' (by simp), List.map_map]
  refine List.map_congr_left (fun b _ => ?_)
  show Value.string b = strV b.data.toList
  unfold strV
  rw [bsL_back]

set_option maxHeartbeats 1000000 in
theorem splitN_any (s : List UInt8) (w : World) (hs : s.length ≤ 1048576) (hV : VarsAt w) : Calls Tryd.prog 19 #[.string (bsL s), .string ⟨#[44]⟩, .int .i64 17] w fun e w' => ∃ a n c, e = .returned (.slice a n c) ∧ OwnS w' w.heap.size (.slice a n c) (Lib.splitK [44] 0 (min 17 (s.length + 1) - 1) s) ∧ Below w.heap.size w w' := by
  obtain ⟨m, hm⟩ := hV.one
  have hsz := bsL_size s
  have hk := splitK_len 44 (min 17 (s.length + 1) - 1) s
  have hd : (Lib.splitB ⟨#[44]⟩ 0 (min 17 (s.length + 1) - 1) (bsL s)).map (·.data.toList) = Lib.splitK [44] 0 (min 17 (s.length + 1) - 1) s := by
    rw [Lib.splitB_data]
    have e1 : (bsL s).data.toList = s := by simp [bsL]
    rw [e1]
  have hl : (Lib.splitB ⟨#[44]⟩ 0 (min 17 (s.length + 1) - 1) (bsL s)).length = (Lib.splitK [44] 0 (min 17 (s.length + 1) - 1) s).length := by rw [← hd, List.length_map]
  have h := Tryd.strings_SplitN (bsL s) ⟨#[44]⟩ 17 m w (by rw [hsz]; omega) hm (by decide) (by omega) (by omega)
  rw [hsz] at h
  refine h.mono ?_
  rintro e w' ⟨rfl, rfl⟩
  refine ⟨_, _, _, rfl, ?_, (Below.refl _ _).alloc (Nat.le_refl _) _⟩
  have h2 := cells_owns w (Lib.splitB ⟨#[44]⟩ 0 (min 17 (s.length + 1) - 1) (bsL s)) (min 17 (s.length + 1)) (by rw [hl]; omega) (by unfold maxLen; omega)
  rw [hd] at h2
  exact h2

/-- A row and a yes or no. -/
def GaveRT (w : World) (xs : List Int) (ok : Bool) (e : Ending) (w' : World) : Prop :=
  ∃ m a c, e = .returned (.tuple #[.slice a m c, .bool ok]) ∧ OwnRow 2 w' w.heap.size (.slice a m c) xs ∧ Below w.heap.size w w'
theorem GaveRT.nil {w w' : World} (hb : Below w.heap.size w w') : GaveRT w [] false (.returned (.tuple #[.slice none 0 0, .bool false])) w' :=
  ⟨0, none, 0, rfl, ⟨by simp, by simp, .inl ⟨rfl, rfl⟩⟩, hb⟩

set_option maxHeartbeats 4000000 in
set_option maxRecDepth 100000 in
theorem implTextSet_any (s : List UInt8) (w : World) (hs : s.length ≤ 1048576) (hV : VarsAt w) : Calls Tryd.prog 6 #[.string (bsL s)] w (GaveRT w (tsL s) (tsB s)) := by
  by_cases h0 : s = [45]
  · subst h0
    have HT : Hid (∀ W, Below w.heap.size w W → OwnRow 2 W w.heap.size (.slice (some ⟨w.heap.size, 0, none⟩) 0 0) [] → GaveRT w (tsL [45]) (tsB [45]) (.returned (.tuple #[.slice (some ⟨w.heap.size, 0, none⟩) 0 0, .bool true])) W) := fun W hb ho => by
      rw [(ts_yes set_dash).1, (ts_yes set_dash).2]
      exact ⟨0, _, 0, rfl, ho, hb⟩
    have HO : Hid (OwnRow 2 (w.alloc (.cells #[] 2)) w.heap.size (.slice (some ⟨w.heap.size, 0, none⟩) 0 0) []) := ⟨by simp, by simp, .inr ⟨w.heap.size, 0, #[], rfl, Nat.le_refl _, heap_alloc_new w _, Nat.le_refl _, Nat.zero_le _, rfl, fun i hi => absurd hi (by simp)⟩⟩
    have hcmp : ((bsL [45]).toList == [45]) = true := by rw [bsL_list]; decide
    go_enter Tryd.func6, Tryd.ntmps6
    go_wp2
    go_ret2
    exact HT.out _ ((Below.refl _ _).alloc (Nat.le_refl _) _) HO.out
  have hcmp : ((bsL s).toList == [45]) = false := by
    rw [bsL_list, beq_eq_false_iff_ne]
    exact h0
  have HV := Lib.hid hV
  obtain ⟨X, hX⟩ : ∃ X, X = Lib.splitK [44] 0 (min 17 (s.length + 1) - 1) s := ⟨_, rfl⟩
  have HSP : Hid (∀ W, VarsAt W → Calls Tryd.prog 19 #[.string (bsL s), .string ⟨#[44]⟩, .int .i64 17] W fun e w' => ∃ a n c, e = .returned (.slice a n c) ∧ OwnS w' W.heap.size (.slice a n c) X ∧ Below W.heap.size W w') := fun W hv => by rw [hX]; exact splitN_any s W hs hv
  have hk := splitK_len 44 (min 17 (s.length + 1) - 1) s
  rw [← hX] at hk
  have hx0 : 0 < X.length := hk.1
  have hx17 : X.length ≤ 1048577 := by omega
  have HXL : Hid (∀ i, i < X.length → (X.getD i []).length ≤ 1048576) := fun i hi => by
    rw [List.getD_eq_getElem?_getD, List.getElem?_eq_getElem hi]
    have := splitK_short 44 (min 17 (s.length + 1) - 1) s X[i] (by rw [← hX]; exact List.getElem_mem hi)
    show X[i].length ≤ _
    omega
  have HW : Hid (∀ xs, SetIs s xs → X = wordsL xs) := fun xs h => by
    obtain ⟨h1, h2⟩ := h.text h0
    rw [hX]
    refine h.cutK h0 ?_
    have h3 := splitL_len 44 s
    rw [h.cutL h0, wordsL_len] at h3
    have := h.le
    omega
  have HE : Hid (s = [] → X = [[]]) := fun h => by rw [hX, h]; rfl
  clear hX hk hV
  go_enter Tryd.func6, Tryd.ntmps6
  go_wp2_with fail
  refine (HSP.out _ HV.out).mono ?_
  rintro e w1 ⟨a1, n1, c1, rfl, ho1, hb1⟩
  have HB1 := Lib.hid hb1
  have HO1 := Lib.hid ho1
  clear ho1 hb1
  go_wp2_with fail
  refine (numbersOf_any _ X _ _ HO1.out hx0 hx17 HXL.out (HV.out.keep HB1.out)).mono ?_
  rintro e w2 ⟨a2, n2, c2, b, rfl, hrow, hne, hyes, hb2⟩
  have HB2 : Hid (Below w.heap.size w w2) := HB1.out.trans (hb2.mono HB1.out.size)
  have hz12 := HB1.out.size
  clear hb2
  cases b with
  | false =>
    have HP : Hid (∀ W, Below w.heap.size w W → GaveRT w (tsL s) (tsB s) (.returned (.tuple #[.slice none 0 0, .bool false])) W) := fun W hb => by
      have hno : ∀ xs, ¬ SetIs s xs := fun xs h => by
        have e := HW.out xs h
        refine Bool.false_ne_true (hyes (fun i hi => ?_))
        rw [e] at hi ⊢
        rw [wordsL_len] at hi
        have hv := h.vtx i hi
        exact ⟨(nth xs i).toNat, by omega, words_at hi⟩
      rw [(ts_no hno).1, (ts_no hno).2]
      exact GaveRT.nil hb
    clear hrow hne hyes
    go_wp2
    go_ret2
    exact HP.out _ HB2.out
  | true =>
    obtain ⟨xs, hox, hlx, hrd⟩ := hrow rfl
    have HNE : Hid (∀ i, i < X.length → X.getD i [] ≠ []) := hne rfl
    have HOX := Lib.hid hox
    have HLX := Lib.hid hlx
    have HRD := Lib.hid hrd
    clear hrow hne hyes hox hlx hrd
    go_wp2_with fail
    refine (implSetText_any _ xs _ HOX.out.row).mono ?_
    rintro e w3 ⟨rfl, hb3⟩
    have HB3 : Hid (Below w.heap.size w w3) := HB2.out.trans (hb3.mono HB2.out.size)
    have HO3 := Lib.hid (HOX.out.keep hb3)
    clear hb3
    by_cases he : stL xs = s
    · have hc2 : ((bsL (stL xs)).toList == (bsL s).toList) = true := by rw [bsL_list, bsL_list, he]; simp
      have HP : Hid (∀ W, Below w.heap.size w W → OwnRow 2 W w1.heap.size (.slice a2 n2 c2) xs → GaveRT w (tsL s) (tsB s) (.returned (.tuple #[.slice a2 n2 c2, .bool true])) W) := fun W hb ho => by
        have hi : SetIs s xs := SetIs.of he (fun e => by
          have h2 := HE.out e
          exact HNE.out 0 hx0 (by rw [h2]; rfl))
        rw [(ts_yes hi).1, (ts_yes hi).2]
        exact ⟨n2, a2, c2, rfl, ho.mono hz12, hb⟩
      clear he
      go_wp2
      go_ret2
      exact HP.out _ HB3.out HO3.out
    · have hc2 : ((bsL (stL xs)).toList == (bsL s).toList) = false := by rw [bsL_list, bsL_list, beq_eq_false_iff_ne]; exact he
      have HP : Hid (∀ W, Below w.heap.size w W → GaveRT w (tsL s) (tsB s) (.returned (.tuple #[.slice none 0 0, .bool false])) W) := fun W hb => by
        have hno : ∀ ys, ¬ SetIs s ys := fun ys h => he (by
          have e := h.read (HW.out ys h) HLX.out HRD.out
          rw [e]; exact h.eq)
        rw [(ts_no hno).1, (ts_no hno).2]
        exact GaveRT.nil hb
      clear he
      go_wp2
      go_ret2
      exact HP.out _ HB3.out

end Go.Proofs.YtojbaepcflkgeaaDoor

/- Walks: the model's list of a text. -/
namespace Go.Proofs.YtojbaepcflkgeaaDoor
open Go.RowKit Go.Shelf

theorem splitL_short (c : UInt8) : ∀ (s : List UInt8), ∀ x ∈ splitL c s, x.length ≤ s.length := by
  intro s
  induction s with
  | nil => intro x hx; simp [splitL] at hx; rw [hx]; exact Nat.le_refl _
  | cons b t ih =>
    intro x hx
    rw [splitL] at hx
    split at hx
    · rcases List.mem_cons.1 hx with rfl | hx
      · simp
      · have := ih x hx; simp; omega
    · split at hx
      · rw [List.mem_singleton] at hx; rw [hx]; simp
      · rename_i h r e
        rcases List.mem_cons.1 hx with rfl | hx
        · have := ih h (by rw [e]; exact List.mem_cons_self ..)
          simp; omega
        · have := ih x (by rw [e]; exact List.mem_cons_of_mem _ hx)
          simp; omega
/-- The numbers of the first k words. -/
def valTo (W : List (List UInt8)) (k : Nat) : List Int := (W.take k).map (fun x => (natV x : Int))
theorem valTo_len {W : List (List UInt8)} {k : Nat} (h : k ≤ W.length) : (valTo W k).length = k := by simp [valTo]; omega
theorem valTo_snoc {W : List (List UInt8)} {k : Nat} (h : k < W.length) : valTo W (k + 1) = valTo W k ++ [(natV W[k] : Int)] := by
  unfold valTo
  rw [List.take_succ_eq_append_getElem h, List.map_append]; rfl
theorem rd_lt {x : List UInt8} (h : rdB x = true) : natV x < 1000000000 := by
  unfold rdB at h
  simp only [Bool.and_eq_true, decide_eq_true_eq] at h
  obtain ⟨⟨⟨h1, h2⟩, _⟩, h3⟩ := h
  rw [List.all_eq_true] at h3
  have h4 := natV_lt x x.length (Nat.le_refl _) (by rw [List.take_length]; exact h3)
  rw [List.take_length] at h4
  exact Nat.lt_of_lt_of_le h4 (Nat.pow_le_pow_right (n := 10) (by omega) h2 : 10 ^ x.length ≤ 10 ^ 9)
theorem own_none1 (w : World) (B : Nat) (hB : B ≤ w.heap.size) : OwnRow 2 (w.alloc (.cells #[] 2)) B (.slice (some ⟨w.heap.size, 0, none⟩) 0 0) [] :=
  ⟨by simp, by simp, .inr ⟨w.heap.size, 0, #[], rfl, hB, heap_alloc_new w _, Nat.le_refl _, Nat.zero_le _, rfl, fun i hi => absurd hi (by simp)⟩⟩

set_option maxHeartbeats 8000000 in
set_option maxRecDepth 100000 in
theorem specTextSet_any (s : List UInt8) (w : World) (hs : s.length ≤ 1048576) : Calls Tryd.prog 5 #[.string (bsL s)] w (GaveRT w (tsL s) (tsB s)) := by
  obtain ⟨i0, hi, hz0, hz1, hz2⟩ := info_parts Tryd.infoI
  have hsz := bsL_size s
  have hsI : (s.length : Int) ≤ 1048576 := by omega
  have HO0 : Hid (OwnRow 2 (w.alloc (.cells #[] 2)) w.heap.size (.slice (some ⟨w.heap.size, 0, none⟩) 0 0) []) := own_none1 w _ (Nat.le_refl _)
  have HB0 : Hid (Below w.heap.size w (w.alloc (.cells #[] 2))) := (Below.refl _ _).alloc (Nat.le_refl _) _
  by_cases h0 : s = [45]
  · subst h0
    have HT : Hid (∀ W, Below w.heap.size w W → OwnRow 2 W w.heap.size (.slice (some ⟨w.heap.size, 0, none⟩) 0 0) [] → GaveRT w (tsL [45]) (tsB [45]) (.returned (.tuple #[.slice (some ⟨w.heap.size, 0, none⟩) 0 0, .bool true])) W) := fun W hb ho => by
      rw [(ts_yes set_dash).1, (ts_yes set_dash).2]
      exact ⟨0, _, 0, rfl, ho, hb⟩
    have hcmp : ((bsL [45]).toList == [45]) = true := by rw [bsL_list]; decide
    clear hi hz0 hz1 hz2
    go_enter Tryd.func5, Tryd.ntmps5
    go_wp2
    go_ret2
    exact HT.out _ HB0.out HO0.out
  have hcmp : ((bsL s).toList == [45]) = false := by
    rw [bsL_list, beq_eq_false_iff_ne]
    exact h0
  by_cases h8 : 800 < s.length
  · have h8I : (800 : Int) < (s.length : Int) := by omega
    have HP : Hid (∀ W, Below w.heap.size w W → OwnRow 2 W w.heap.size (.slice (some ⟨w.heap.size, 0, none⟩) 0 0) [] → GaveRT w (tsL s) (tsB s) (.returned (.tuple #[.slice (some ⟨w.heap.size, 0, none⟩) 0 0, .bool false])) W) := fun W hb ho => by
      have hno : ∀ xs, ¬ SetIs s xs := fun xs h => by have := h.short; omega
      rw [(ts_no hno).1, (ts_no hno).2]
      exact ⟨0, _, 0, rfl, ho, hb⟩
    clear hi hz0 hz1 hz2
    go_enter Tryd.func5, Tryd.ntmps5
    go_wp2
    go_ret2
    exact HP.out _ HB0.out HO0.out
  have h8I : ¬ (800 : Int) < (s.length : Int) := by omega
  obtain ⟨W, hW⟩ : ∃ W, W = splitL 44 s := ⟨_, rfl⟩
  have hwl := splitL_len 44 s
  rw [← hW] at hwl
  have hw0 : 0 < W.length := hwl.2
  have hw8 : W.length ≤ 801 := by omega
  have HSP : Hid (∀ V, Calls Tryd.prog 16 #[.string (bsL s), .int .u8 44] V fun e w' => ∃ n a c, e = .returned (.slice a n c) ∧ OwnS w' V.heap.size (.slice a n c) W ∧ Below V.heap.size V w') := fun V => by rw [hW]; exact l1Split_any s 44 V hs
  have HWL : Hid (∀ k (h : k < W.length), (W[k]).length ≤ 1048576) := fun k h => by
    have := splitL_short 44 s W[k] (by rw [← hW]; exact List.getElem_mem h)
    omega
  have HWX : Hid (∀ xs, SetIs s xs → W = wordsL xs) := fun xs h => by rw [hW]; exact h.cutL h0
  have HE : Hid (s = [] → W = [[]]) := fun h => by rw [hW, h]; rfl
  have HNO : Hid (∀ k (h : k < W.length), rdB W[k] = false → ∀ xs, ¬ SetIs s xs) := fun k h hr xs hx => by
    have e := HWX.out xs hx
    subst e
    rw [wordsL_len] at h
    have hv := hx.vtx k h
    have e2 : (wordsL xs)[k]'(by rw [wordsL_len]; exact h) = dgs (nth xs k).toNat := by
      have := words_at h
      rw [List.getD_eq_getElem?_getD, List.getElem?_eq_getElem (by rw [wordsL_len]; exact h)] at this
      exact this
    rw [e2, (rd_dgs (by omega)).1] at hr
    cases hr
  clear hW hwl h0 h8
  go_enter Tryd.func5, Tryd.ntmps5
  go_wp2_with fail
  refine (HSP.out _).mono ?_
  rintro e w1 ⟨n1, a1, c1, rfl, ho1, hb1⟩
  obtain ⟨g1, cap1, e1, hg1, hlc1, hcell1⟩ := ho1.pos hw0
  simp only [Value.slice.injEq] at e1
  obtain ⟨rfl, rfl, rfl⟩ := e1
  have HC1 := Lib.hid hcell1
  have HO1 := Lib.hid (HO0.out.keep hb1)
  have HB1 : Hid (Below w.heap.size w w1) := HB0.out.trans (hb1.mono HB0.out.size)
  have HG : Hid (g1 < w1.heap.size) := hg1
  have HGT : Hid (∃ cur, w1.heap[g1]? = some (.cells cur 9 (0, 0))) := by
    rcases ho1.2 with ⟨e, _⟩ | ⟨g, cap, cur, e, _, hh, _⟩
    · cases e
    · simp only [Value.slice.injEq, Option.some.injEq, Addr.mk.injEq, and_true, true_and] at e
      rw [← e.1] at hh
      exact ⟨cur, hh⟩
  have HGO : Hid (w.heap.size < g1) := by
    have := (World.ownsRow.lt ho1 g1 rfl).1
    rw [size_alloc1] at this
    exact this
  clear ho1 hb1 hcell1 hg1
  go_wp2_with fail
  go_loopw [4, 6] (fun v i wr => ∃ k : Nat, k ≤ W.length ∧ i = .int .i64 k ∧ OwnRow 2 wr w.heap.size v (valTo W k) ∧ (∀ j (h : j < W.length), j < k → rdB W[j] = true) ∧ wr.heap[g1]? = w1.heap[g1]? ∧ Below w.heap.size w wr) (fun _ i _ => W.length - (intOf i).toNat)
  case atStart => exact ⟨0, Nat.zero_le _, rfl, HO1.out, fun j h hj => absurd hj (by omega), rfl, HB1.out⟩
  case round =>
    obtain ⟨k, hk, rfl, ho, hrd, hcl, hb⟩ := hrel
    have hvl := valTo_len hk
    obtain ⟨av, cv, ev⟩ := ho.row.slice
    rw [hvl] at ev
    subst ev
    have HO := Lib.hid ho
    have HRD := Lib.hid hrd
    have HCL := Lib.hid hcl
    have HB := Lib.hid hb
    have HVL := Lib.hid hvl
    have hzr : w.heap.size ≤ wr.heap.size := hb.size
    have HNB : Hid ((Value.slice av k cv).ownBlock ≠ some g1) := fun e => by
      obtain ⟨cur, h1⟩ := ho.blk e
      obtain ⟨cur2, h2⟩ := HGT.out
      rw [hcl, h2] at h1
      simp at h1
    clear ho hrd hb hvl
    by_cases hlt : k < W.length
    · have hck : wr.cell? ⟨g1, k, none⟩ = some (.string (bsL W[k])) := by
        rw [World.cell?_of_block (w := w1) hcl]; exact HC1.out k hlt
      have hltI : (k : Int) < (W.length : Int) := by omega
      have hxl := HWL.out k hlt
      have hnok := HNO.out k hlt
      have hvs := valTo_snoc hlt
      have HRDK : Hid (rdB W[k] = true → ∀ j (h : j < W.length), j < k + 1 → rdB W[j] = true) := fun h j hj hjk => by
        by_cases e : j = k
        · subst e; exact h
        · exact HRD.out j hj (by omega)
      obtain ⟨x, hx⟩ : ∃ x, W[k] = x := ⟨_, rfl⟩
      rw [hx] at hck hxl hnok hvs HRDK
      have HNOK := Lib.hid hnok
      have HVS := Lib.hid hvs
      clear hx hcl hnok hvs
      go_wp2_with fail
      refine (l1Read_any x _ hxl).mono ?_
      rintro e w' ⟨rfl, rfl⟩
      by_cases hr : rdB x = true
      · have hnl := rd_lt hr
        have HR := Lib.hid (HRDK.out hr)
        rw [hr, if_pos rfl]
        obtain ⟨y, hy⟩ : ∃ y, natV x = y := ⟨_, rfl⟩
        rw [hy] at hnl ⊢
        have HY := Lib.hid hy
        have HLIT := Lib.hid (lit1 wr (y : Int) 2)
        have HW := Lib.hid HO.out.owns
        have hw2 := HW.out
        rw [HVL.out] at hw2
        have HWK := Lib.hid hw2
        clear hr hy hck hw2
        go_wp2_with (at_builtin; refine wpList_append_own _ rfl (.tmp 36) (.tmp 38) 22 rfl w.heap.size 2 i0 (.int .i64 0) 1 8 Tryd.underlying22 hi hz0 hz1 hz2 rfl (by decide) _ _ _ rfl (HWK.out.alloc _) ⟨wr.heap.size, 0, none⟩ 1 1 [.int .i64 (y : Int)] rfl rfl ?d1 ?d2 ?d3 ?d4 ?d5 ?_)
        case d1 => exact HLIT.out
        case d2 => exact one1 _
        case d3 => unfold maxLen; omega
        case d4 => omega
        case d5 => simp; omega
        intro v6 w6 hown6 hgrow6 _
        have HB6 : Hid (Below w.heap.size w w6) := (HB.out.alloc hzr _).grown hgrow6 (by simp; omega) (fun j hj => (HWK.out.lt j hj).1)
        have HG6 : Hid (w6.heap[g1]? = w1.heap[g1]?) := by
          have hgl : g1 < wr.heap.size := by
            obtain ⟨cur, h⟩ := HGT.out
            rw [← HCL.out] at h
            exact (Array.getElem?_eq_some_iff.1 h).1
          have e1 := hgrow6.block g1 (by rw [size_alloc1]; omega) (fun e => HNB.out e.symm)
          show _ = _
          rw [e1, heap_alloc_old _ _ hgl]
          exact HCL.out
        have HO6 : Hid (OwnRow 2 w6 w.heap.size v6 (valTo W (k + 1))) := by
          have h := OwnRow.of_ownsRow (xs := valTo W k ++ [(y : Int)]) (n := k + 1) (by simpa using hown6) (by simp [HVL.out]; unfold maxLen; omega) (fun z hz => by
            rcases List.mem_append.1 hz with hz | hz
            · exact HO.out.1 z hz
            · rw [List.mem_singleton] at hz; subst hz; unfold I64; omega)
          have e : valTo W (k + 1) = valTo W k ++ [(y : Int)] := by rw [HVS.out, HY.out]
          rw [e]; exact h
        clear hown6 hgrow6
        go_wp2
        go_roundw
        case rel => exact ⟨k + 1, by omega, by go_num, HO6.out, HR.out, HG6.out, HB6.out⟩
        case measure => simp [intOf]; omega
      · have hr' : rdB x = false := by simpa using hr
        have HP : Hid (∀ V, Below w.heap.size w V → OwnRow 2 V w.heap.size (.slice (some ⟨wr.heap.size, 0, none⟩) 0 0) [] → GaveRT w (tsL s) (tsB s) (.returned (.tuple #[.slice (some ⟨wr.heap.size, 0, none⟩) 0 0, .bool false])) V) := fun V hb ho => by
          have hno := HNOK.out hr'
          rw [(ts_no hno).1, (ts_no hno).2]
          exact ⟨0, _, 0, rfl, ho, hb⟩
        have HON : Hid (OwnRow 2 (wr.alloc (.cells #[] 2)) w.heap.size (.slice (some ⟨wr.heap.size, 0, none⟩) 0 0) []) := own_none1 wr _ hzr
        have HBN : Hid (Below w.heap.size w (wr.alloc (.cells #[] 2))) := HB.out.alloc hzr _
        rw [hr']
        clear hr hr' hck
        go_wp2
        go_ret2
        exact HP.out _ HBN.out HON.out
    · obtain rfl : k = W.length := by omega
      clear hcl
      go_wp2_with fail
      refine (specSetText_any _ (valTo W W.length) _ HO.out.row).mono ?_
      rintro e w3 ⟨rfl, hb3⟩
      have HB3 : Hid (Below w.heap.size w w3) := HB.out.trans (hb3.mono hzr)
      have HO3 := Lib.hid (HO.out.keep hb3)
      have hz3 : w.heap.size ≤ w3.heap.size := HB3.out.size
      clear hb3
      by_cases he : stL (valTo W W.length) = s
      · have hc2 : ((bsL (stL (valTo W W.length))).toList == (bsL s).toList) = true := by rw [bsL_list, bsL_list, he]; simp
        have HP : Hid (∀ V, Below w.heap.size w V → OwnRow 2 V w.heap.size (.slice av W.length cv) (valTo W W.length) → GaveRT w (tsL s) (tsB s) (.returned (.tuple #[.slice av W.length cv, .bool true])) V) := fun V hb ho => by
          have hi : SetIs s (valTo W W.length) := SetIs.of he (fun e => by
            have h2 := HE.out e
            have h3 := HRD.out 0 hw0 hw0
            subst h2
            cases h3)
          rw [(ts_yes hi).1, (ts_yes hi).2]
          exact ⟨_, _, _, rfl, ho, hb⟩
        clear he
        go_wp2
        go_ret2
        exact HP.out _ HB3.out HO3.out
      · have hc2 : ((bsL (stL (valTo W W.length))).toList == (bsL s).toList) = false := by rw [bsL_list, bsL_list, beq_eq_false_iff_ne]; exact he
        have HP : Hid (∀ V, Below w.heap.size w V → OwnRow 2 V w.heap.size (.slice (some ⟨w3.heap.size, 0, none⟩) 0 0) [] → GaveRT w (tsL s) (tsB s) (.returned (.tuple #[.slice (some ⟨w3.heap.size, 0, none⟩) 0 0, .bool false])) V) := fun V hb ho => by
          have hno : ∀ ys, ¬ SetIs s ys := fun ys h => he (by
            have e := h.read (HWX.out ys h) HVL.out (fun i hi m hm e => by
              rw [List.getD_eq_getElem?_getD, List.getElem?_eq_getElem hi] at e
              have e2 : W[i] = dgs m := e
              unfold valTo
              simp [nth, hi]
              rw [e2, (rd_dgs hm).2])
            rw [e]; exact h.eq)
          rw [(ts_no hno).1, (ts_no hno).2]
          exact ⟨0, _, 0, rfl, ho, hb⟩
        have HON : Hid (OwnRow 2 (w3.alloc (.cells #[] 2)) w.heap.size (.slice (some ⟨w3.heap.size, 0, none⟩) 0 0) []) := own_none1 w3 _ hz3
        have HBN : Hid (Below w.heap.size w (w3.alloc (.cells #[] 2))) := HB3.out.alloc hz3 _
        clear he
        go_wp2
        go_ret2
        exact HP.out _ HBN.out HON.out

end Go.Proofs.YtojbaepcflkgeaaDoor
