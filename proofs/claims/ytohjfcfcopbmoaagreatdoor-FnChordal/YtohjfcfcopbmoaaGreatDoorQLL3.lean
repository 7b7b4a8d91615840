/- The texts LL3, CB3, CB4, CQ1, CQ2, joined. -/
import Derived.Test.YtohjfcfcopbmoaaGreatDoorQPO6
import Derived.Test.YtohjfcfcopbmoaaGreatDoorQCN3
import Derived.Test.YtohjfcfcopbmoaaGreatDoorQEC3
import Derived.Test.YtohjfcfcopbmoaaGreatDoorQER1
import Derived.Test.YtohjfcfcopbmoaaGreatDoorQC1
import Derived.BigQuiet

/- Walks: the least loop, of the program. -/
namespace Go.Proofs.YtohjfcfcopbmoaaGreatDoor
open Go.RowKit

/-- A slice against nil. -/
theorem eqIn_nil (d : Nat) (a : Option Addr) (n c : Nat) (w : World) : (Op.equalIn (d + 1) 33 (.slice a n c) (.slice none 0 0)).run Tryz.prog w = .ok a.isNone w := by
  cases a <;> simp [Op.equalIn, run_underlying Tryz.underlying33]
theorem equal_nil (a : Option Addr) (n c : Nat) (w : World) : (Op.equal 33 (.slice a n c) (.slice none 0 0)).run Tryz.prog w = .ok a.isNone w := eqIn_nil 9999 a n c w
theorem eql_no (a : Addr) (n c : Nat) (w : World) : (binOp .eql 33 (.slice (some a) n c) (.slice none 0 0)).run Tryz.prog w = .ok (.bool false) w := by
  simp [binOp, equal_nil]
theorem eql_yes (w : World) : (binOp .eql 33 (.slice none 0 0) (.slice none 0 0)).run Tryz.prog w = .ok (.bool true) w := by
  simp [binOp, equal_nil]
theorem neq_yes (a : Addr) (n c : Nat) (w : World) : (binOp .neq 33 (.slice (some a) n c) (.slice none 0 0)).run Tryz.prog w = .ok (.bool true) w := by
  simp [binOp, equal_nil]
theorem neq_no (w : World) : (binOp .neq 33 (.slice none 0 0) (.slice none 0 0)).run Tryz.prog w = .ok (.bool false) w := by
  simp [binOp, equal_nil]

/-- A row of one's own has been handed back; an empty one is nil. -/
def GaveNil (w : World) (xs : List Int) (e : Ending) (w' : World) : Prop := GaveRow w xs e w' ∧ (xs = [] → e = .returned (.slice none 0 0))

end Go.Proofs.YtohjfcfcopbmoaaGreatDoor

/- Walks: the way round a bend. -/
namespace Go.Proofs.YtohjfcfcopbmoaaGreatDoor
open Go.RowKit

/-- What chordlessBy answers. -/
noncomputable def chN (M : Nat → Nat) (n u v x : Nat) : List Int := if pathN (insM M (bendK M n u v x)) n v x = [] then [] else (u : Int) :: pathN (insM M (bendK M n u v x)) n v x

theorem pathN_le {M : Nat → Nat} {n u v : Nat} (hn : n ≤ 16) : (pathN M n u v).length ≤ 16 := by
  unfold pathN
  split
  · rename_i h
    rw [wayD_len]
    have := dOf_lt (A := nearM M) (v := v) (S := allS n) (n := n) (fun u hu => (allS_iff _ _).1 hu) u
    omega
  · simp

set_option maxHeartbeats 4000000 in
set_option maxRecDepth 100000 in
theorem chordlessBy_any (g n u v x : Nat) (M : Nat → Nat) (w : World) (h : NetBlk 83 w g n M) (hT : TabAt w) (hM : ∀ i, M i < 65536) (hn : 1 ≤ n ∧ n ≤ 16) (hu : u < n) (hv : v < n) (hx : x < n) (hA : ∀ a b, nearM M a b = nearM M b a) :
    Calls Tryz.prog 98 #[.pointer (some ⟨g, 0, none⟩), .int .i64 (u : Int), .int .i64 (v : Int), .int .i64 (x : Int)] w (GaveNil w (chN M n u v x)) := by
  obtain ⟨i0, hi, hz0, hz1, hz2⟩ := info_parts Tryz.infoI
  have hg := h.lt
  have kn := h.at.1
  have km := h.at.2 u (by omega)
  have HNK : Hid (∀ w', Below w.heap.size w w' → NetBlk 83 w' g n M) := fun w' hb => h.keep hb
  have HT : Hid (∀ w', Below w.heap.size w w' → TabAt w') := fun w' hb => hT.keep hb
  have HM := Lib.hid hM
  have HA := Lib.hid hA
  have hu16 : (u : Int) < 16 := by omega
  clear h hT hM hA
  go_enter Tryz.func98, Tryz.ntmps98
  have KS : Hid (∀ W, Below w.heap.size w W → W.cell? ⟨g, 0, none⟩ = some (.int .i64 (n : Int)) ∧ W.cell? ⟨g, 1 + u, none⟩ = some (.int .u32 ((M u : Nat) : Int))) := fun W hb => ⟨cell_keep hb kn, cell_keep hb km⟩
  have ks := KS.out _ (Below.refl _ _)
  have hbits : bits BinOp.andNot IntKind.u32 ((2 ^ n - 1 : Nat) : Int) ((M u : Nat) : Int) = ((clrM (2 ^ n - 1) (M u) : Nat) : Int) := by
    have h1 : 2 ^ n - 1 < 65536 := by
      have := Nat.pow_le_pow_right (show 0 < 2 by omega) hn.2
      omega
    have := HM.out u
    rw [u32_andNot_nat _ _ (by omega) (by omega)]; rfl
  clear kn km
  go_wp2_with fail
  go_region_held3 (fun wy => wy.cell? ⟨g, 0, none⟩ = some (.int .i64 (n : Int)) ∧ wy.cell? ⟨g, 1 + u, none⟩ = some (.int .u32 ((M u : Nat) : Int))) (first | exact ks | with_reducible exact KS.out _ (Below.refl _ _).drew | with_reducible exact KS.out _ ((Below.refl _ _).alloc (Nat.le_refl _) _).drew | with_reducible exact KS.out _ ((Below.refl _ _).alloc (Nat.le_refl _) _))
    (first
      | (go_at_call 186; with_reducible refine (wholeMask_any n _ hn.2).mono ?_; rintro e w' ⟨rfl, rfl⟩))
  all_goals (
    have hk1 : BoxT 80 ((w.alloc (.cells #[.int .u32 ((clrM (2 ^ n - 1) (M u) : Nat) : Int)] 80)).drew) w.heap.size (.int .u32 ((clrM (2 ^ n - 1) (M u) : Nat) : Int)) := (BoxT.new _ _ _).keep (Below.refl _ _).drew
    have hb1 : Below w.heap.size w ((w.alloc (.cells #[.int .u32 ((clrM (2 ^ n - 1) (M u) : Nat) : Int)] 80)).drew) := ((Below.refl _ _).alloc (Nat.le_refl _) _).drew
    generalize (w.alloc (.cells #[.int .u32 ((clrM (2 ^ n - 1) (M u) : Nat) : Int)] 80)).drew = w1 at hk1 hb1 ⊢
    have HB1 := Lib.hid hb1
    have HK1 := Lib.hid hk1
    have hK1 : clrM (2 ^ n - 1) (M u) < 65536 := clrM_lt _ (by
      have := Nat.pow_le_pow_right (show 0 < 2 by omega) hn.2
      omega)
    have h2u : 2 ^ u < 65536 := pow_lt16 (by omega)
    have h2v : 2 ^ v < 65536 := pow_lt16 (by omega)
    have h2x : 2 ^ x < 65536 := pow_lt16 (by omega)
    obtain ⟨K1, hK1e⟩ : ∃ K1, K1 = clrM (2 ^ n - 1) (M u) := ⟨_, rfl⟩
    rw [← hK1e] at HK1 hK1 hbits
    have hk1' := HK1.out.box
    have hlow : w.heap.size < w1.heap.size := HK1.out.lt
    clear hk1 hb1 ks hbits
    go_wp2_with fail
    refine (cut_any w.heap.size 0 K1 (u : Int) _ hk1'.1 hk1'.2 hK1 (by omega) hu16).mono ?_
    rintro e w2 ⟨rfl, hd2⟩
    rw [Int.toNat_natCast] at hd2
    have HK2 : Hid (BoxT 80 w2 w.heap.size (.int .u32 ((clrM K1 (2 ^ u) : Nat) : Int))) := (HK1.out.set _).keep (hd2.below _)
    have HB2 : Hid (Below w.heap.size w w2) := (HB1.out.setCell (p := ⟨w.heap.size, 0, none⟩) (Nat.le_refl _) _).trans (hd2.below _)
    have hK2 : clrM K1 (2 ^ u) < 65536 := clrM_lt _ hK1
    obtain ⟨K2, hK2e⟩ : ∃ K2, K2 = clrM K1 (2 ^ u) := ⟨_, rfl⟩
    rw [← hK2e] at HK2 hK2
    have hk2' := HK2.out.box
    clear hd2 hk1' HK1 HB1
    go_wp2_with fail
    refine (add_any w.heap.size 0 K2 (v : Int) _ hk2'.1 hk2'.2 hK2 (by omega) (by omega)).mono ?_
    rintro e w3 ⟨rfl, hd3⟩
    rw [Int.toNat_natCast] at hd3
    have HK3 : Hid (BoxT 80 w3 w.heap.size (.int .u32 ((K2 ||| 2 ^ v : Nat) : Int))) := (HK2.out.set _).keep (hd3.below _)
    have HB3 : Hid (Below w.heap.size w w3) := (HB2.out.setCell (p := ⟨w.heap.size, 0, none⟩) (Nat.le_refl _) _).trans (hd3.below _)
    have hK3 : K2 ||| 2 ^ v < 65536 := or_lt16 hK2 (by omega)
    obtain ⟨K3, hK3e⟩ : ∃ K3, K3 = K2 ||| 2 ^ v := ⟨_, rfl⟩
    rw [← hK3e] at HK3 hK3
    have hk3' := HK3.out.box
    clear hd3 hk2' HK2 HB2
    go_wp2_with fail
    refine (add_any w.heap.size 0 K3 (x : Int) _ hk3'.1 hk3'.2 hK3 (by omega) (by omega)).mono ?_
    rintro e w4 ⟨rfl, hd4⟩
    rw [Int.toNat_natCast] at hd4
    have HK4 : Hid (BoxT 80 w4 w.heap.size (.int .u32 ((K3 ||| 2 ^ x : Nat) : Int))) := (HK3.out.set _).keep (hd4.below _)
    have HB4 : Hid (Below w.heap.size w w4) := (HB3.out.setCell (p := ⟨w.heap.size, 0, none⟩) (Nat.le_refl _) _).trans (hd4.below _)
    have hK4 : K3 ||| 2 ^ x < 65536 := or_lt16 hK3 (by omega)
    have hKe : K3 ||| 2 ^ x = bendK M n u v x := by rw [hK3e, hK2e, hK1e]; rfl
    rw [hKe] at HK4 hK4
    have hk4' := HK4.out.box.1
    clear hd4 hk3' HK3 HB3 hK3e hK2e hK1e hKe hK1 hK2 hK3
    obtain ⟨K, hKd⟩ : ∃ K, K = bendK M n u v x := ⟨_, rfl⟩
    rw [← hKd] at HK4 hK4 hk4'
    have HKD := Lib.hid hKd
    clear hKd
    go_wp2_with fail
    refine (inside_any g n M K _ (HNK.out _ HB4.out) HM.out hK4).mono ?_
    rintro e w5 ⟨rfl, hb5⟩
    have HB5 : Hid (Below w.heap.size w w5) := HB4.out.trans (hb5.mono HB4.out.size)
    have hnb := netBlk_new w5 0 (fun _ => 0)
    clear hb5 hk4' HK4
    go_wp2_with (refine wpList_store_net rfl 83 (.tmp 10) (.tmp 32) rfl w5.heap.size n (insM M K) rfl rfl Tryz.sizeNet 0 (fun _ => 0) hnb ?_; intro w6 hp6; have HN6 := Lib.hid hp6.net; have HB6 : Hid (Below w5.heap.size w5 w6) := hp6.since; clear hp6)
    rename World => w6
    have HAS : Hid (∀ a b, nearM (insM M K) a b = nearM (insM M K) b a) := fun a b => by
      rw [insM_near, insM_near, HA.out a b]
      cases nearM M b a <;> cases K.testBit a <;> cases K.testBit b <;> rfl
    have HB56 : Hid (Below w.heap.size w w6) := HB5.out.trans (HB6.out.mono HB5.out.size)
    refine (path_full w5.heap.size n v x (insM M K) _ HN6.out.at (HT.out _ HB56.out) (insM_lt HM.out K) hn HAS.out hv hx).mono ?_
    rintro e w7 ⟨⟨n7, a7, c7, rfl, ho7, hb7⟩, hnil⟩
    have HB7 : Hid (Below w.heap.size w w7) := HB56.out.trans (hb7.mono HB56.out.size)
    have hw7 : w.heap.size ≤ w7.heap.size := HB7.out.size
    by_cases hb0 : pathN (insM M K) n v x = []
    · have HCE : Hid (chN M n u v x = []) := by
        show _ = _
        unfold chN
        rw [← HKD.out, if_pos hb0]
      have he := hnil hb0
      simp only [Ending.returned.injEq, Value.slice.injEq] at he
      obtain ⟨rfl, rfl, rfl⟩ := he
      clear ho7 hb7 hb0 hnil
      have heq := eql_yes
      go_wp2
      go_ret
      exact ⟨⟨0, none, 0, rfl, by rw [HCE.out]; exact ⟨by simp, Nat.zero_le _, .inl ⟨rfl, rfl⟩⟩, HB7.out⟩, fun _ => rfl⟩
    · have HCY : Hid (chN M n u v x = (u : Int) :: pathN (insM M K) n v x) := by
        show _ = _
        unfold chN
        rw [← HKD.out, if_neg hb0]
      have HI := Lib.hid ho7.1
      have hlen : (pathN (insM M K) n v x).length ≤ 16 := pathN_le hn.2
      obtain ⟨X, hX⟩ : ∃ X, X = pathN (insM M K) n v x := ⟨_, rfl⟩
      rw [← hX] at ho7 hb0 hlen HCY HI
      have hX0 : 0 < X.length := List.length_pos_iff.2 hb0
      obtain ⟨gw, cw, e8, hgwB, hgwl, hcw1, hcw2⟩ := ho7.posB (by omega)
      simp only [Value.slice.injEq] at e8
      obtain ⟨rfl, rfl, rfl⟩ := e8
      have HXC : Hid (∀ i, i < X.length → w7.cell? ⟨gw, i, none⟩ = some (.int .i64 (nth X i))) := fun i hi => ho7.cells' i hi
      have HOW9 : Hid ((w7.alloc (.cells #[.int .i64 (u : Int)] 2)).ownsRow w7.heap.size 2 1 (.slice (some ⟨w7.heap.size, 0, none⟩) 1 1) 1 [.int .i64 (u : Int)]) := World.ownsRow_lit w7 #[.int .i64 (u : Int)] 1 (Nat.le_refl _) (by unfold maxLen; omega) rfl
      clear ho7 hb7 hb0 hnil hX HN6
      have heq := eql_no
      go_wp2_with (at_builtin; refine wpList_append_own _ rfl (.tmp 39) (.tmp 40) 33 rfl w7.heap.size 2 i0 (.int .i64 0) 1 8 Tryz.underlying33 hi hz0 hz1 hz2 rfl (by decide) _ _ _ rfl HOW9.out ⟨gw, 0, none⟩ X.length c7 (X.map (Value.int .i64)) rfl ?d0 ?d1 (ints_one _) ?d3 ?d4 ?d5 ?_)
      case d0 => simp
      case d1 =>
        intro j z hj
        rw [List.getElem?_map] at hj
        obtain ⟨y, hy, rfl⟩ := Option.map_eq_some_iff.1 hj
        obtain ⟨hjl, e⟩ := List.getElem?_eq_some_iff.1 hy
        have := cell_keep (w' := w7.alloc (.cells #[.int .i64 (u : Int)] 2)) ((Below.refl _ _).alloc (Nat.le_refl _) _) (HXC.out j hjl)
        rw [nth_eq hjl, e] at this
        unfold Addr.add
        split
        · rename_i e0; subst e0; exact this
        · simpa using this
      case d3 => unfold maxLen; omega
      case d4 => omega
      case d5 => simp
      intro v9 w9 hown9 hgrow9 _
      have hb9 : Below w7.heap.size w7 w9 := ((Below.refl _ _).alloc (Nat.le_refl _) _).grown hgrow9 (by simp) (fun j hj => by simp [Value.ownBlock] at hj; omega)
      have HO9 : Hid (OwnRow 2 w9 w7.heap.size v9 (chN M n u v x)) := by
        show OwnRow _ _ _ _ _
        rw [HCY.out]
        refine OwnRow.of_ownsRow (n := 1 + X.length) (by simpa using hown9) (by simp; unfold maxLen; omega) (fun y hy => ?_)
        rcases List.mem_cons.1 hy with rfl | hy
        · unfold I64; omega
        · exact HI.out y hy
      have HB9 : Hid (Below w.heap.size w w9) := HB7.out.trans (hb9.mono hw7)
      have HCN : Hid (chN M n u v x ≠ []) := fun e => by have := HCY.out; rw [this] at e; cases e
      obtain ⟨a9, c9, e9⟩ := HO9.out.row.slice
      subst e9
      clear hown9 hgrow9 hb9
      go_wp2
      go_ret
      exact ⟨⟨_, _, _, rfl, HO9.out.mono hw7, HB9.out⟩, fun e => absurd e HCN.out⟩)

end Go.Proofs.YtohjfcfcopbmoaaGreatDoor

/- Plain facts: the best of the ways round all bends, in the order in which the program takes them, is the least loop without a chord. -/
namespace Go.Proofs.YtohjfcfcopbmoaaGreatDoor
open Go.RowKit

theorem chN_seen (M : Nat → Nat) (n u v x : Nat) : (chN M n u v x = [] ∧ ∀ d, ¬ AtD (nearM (insM M (bendK M n u v x))) (allS n) x d v) ∨ ∃ d, AtD (nearM (insM M (bendK M n u v x))) (allS n) x d v ∧ chN M n u v x = (u : Int) :: wayD (insM M (bendK M n u v x)) (ringN (nearM (insM M (bendK M n u v x))) (allS n) x) d v d := by
  classical
  rcases Classical.em (∃ d, AtD (nearM (insM M (bendK M n u v x))) (allS n) x d v) with ⟨d, hd⟩ | hno
  · right
    refine ⟨d, hd, ?_⟩
    unfold chN
    rw [pathN_at hd, if_neg]
    intro e
    have := wayD_len (insM M (bendK M n u v x)) (ringN (nearM (insM M (bendK M n u v x))) (allS n) x) d v d
    rw [e] at this
    simp at this
  · left
    have hn : ∀ d, ¬ AtD (nearM (insM M (bendK M n u v x))) (allS n) x d v := fun d hd => hno ⟨d, hd⟩
    refine ⟨?_, hn⟩
    unfold chN
    rw [if_pos (pathN_no hn)]
/-- The ends of the bends at u whose first is v. -/
def bendW (M : Nat → Nat) (u v : Nat) : List Nat := (List.range 16).filter (fun x => (M u).testBit x && !(M v).testBit x && decide (v < x))
/-- The bends at u. -/
def bendV (M : Nat → Nat) (u : Nat) : List (Nat × Nat × Nat) := ((List.range 16).filter (fun v => (M u).testBit v)).flatMap (fun v => (bendW M u v).map (fun x => (u, v, x)))
/-- All bends. -/
def bendZ (M : Nat → Nat) (n : Nat) : List (Nat × Nat × Nat) := (List.range n).flatMap (bendV M)
theorem bendZ_mem {M : Nat → Nat} {n : Nat} (hA : RelP n (nearM M)) (hn : n ≤ 16) (t : Nat × Nat × Nat) : t ∈ bendZ M n ↔ Bend (nearM M) t.1 t.2.1 t.2.2 := by
  obtain ⟨u, v, x⟩ := t
  unfold bendZ bendV bendW
  simp only [List.mem_flatMap, List.mem_map, List.mem_filter, List.mem_range, Bool.and_eq_true, Bool.not_eq_true', decide_eq_true_iff, Prod.mk.injEq]
  constructor
  · rintro ⟨u', hu, v', ⟨hv, h1⟩, x', ⟨hx, ⟨h2, h3⟩, h4⟩, rfl, rfl, rfl⟩
    exact ⟨h1, h2, h3, h4⟩
  · intro h
    have h1 := hA.range u v h.left
    have h2 := hA.range u x h.right
    exact ⟨u, h1.1, v, ⟨by omega, h.left⟩, x, ⟨by omega, ⟨h.right, h.open_⟩, h.lt⟩, rfl, rfl, rfl⟩
/-- The best way round the bends of a list. -/
noncomputable def bestZ (M : Nat → Nat) (n : Nat) (Z : List (Nat × Nat × Nat)) : List Int := Z.foldl (fun b t => betterR b (chN M n t.1 t.2.1 t.2.2)) []
theorem bestZ_snoc (M : Nat → Nat) (n : Nat) (Z : List (Nat × Nat × Nat)) (t : Nat × Nat × Nat) : bestZ M n (Z ++ [t]) = betterR (bestZ M n Z) (chN M n t.1 t.2.1 t.2.2) := by
  unfold bestZ
  rw [List.foldl_append]
  rfl
theorem bestZ_cls {M : Nat → Nat} {n : Nat} (hA : RelP n (nearM M)) (hM : ∀ i, M i < 65536) (hn : n ≤ 16) : bestZ M n (bendZ M n) = clsL (nearM M) :=
  bends_cls (c := fun t => chN M n t.1 t.2.1 t.2.2) (T := allS n) hA hM hn (fun t => allS_iff n t) (bendZ_mem hA hn) (fun t _ => chN_seen M n t.1 t.2.1 t.2.2)
theorem bestZ_seen {M : Nat → Nat} {n : Nat} (hA : RelP n (nearM M)) (hM : ∀ i, M i < 65536) (hn : n ≤ 16) : SeenR (ChlP (nearM M)) (ChlP (nearM M)) (bestZ M n (bendZ M n)) :=
  bends_seen (c := fun t => chN M n t.1 t.2.1 t.2.2) (T := allS n) hA hM hn (fun t => allS_iff n t) (bendZ_mem hA hn) (fun t _ => chN_seen M n t.1 t.2.1 t.2.2)
theorem chN_len {M : Nat → Nat} {n u v x : Nat} (hn : n ≤ 16) : (chN M n u v x).length ≤ 17 := by
  unfold chN
  split
  · simp
  · have := pathN_le (M := insM M (bendK M n u v x)) (u := v) (v := x) hn
    rw [List.length_cons]; omega
theorem bestZ_len {M : Nat → Nat} {n : Nat} (hn : n ≤ 16) (Z : List (Nat × Nat × Nat)) : (bestZ M n Z).length ≤ 17 := by
  have key : ∀ (Z : List (Nat × Nat × Nat)) (b : List Int), b.length ≤ 17 → (Z.foldl (fun b t => betterR b (chN M n t.1 t.2.1 t.2.2)) b).length ≤ 17 := by
    intro Z
    induction Z with
    | nil => intro b hb; exact hb
    | cons t Z ih =>
      intro b hb
      rw [List.foldl_cons]
      refine ih _ ?_
      unfold betterR
      split
      · exact chN_len hn
      · exact hb
  exact key Z [] (by simp)

end Go.Proofs.YtohjfcfcopbmoaaGreatDoor

/- Walks: all of a set are near each other, of the program; CliqueOk. -/
namespace Go.Proofs.YtohjfcfcopbmoaaGreatDoor
open Go.RowKit

/-- Who of a set is not near u, u itself aside. -/
def apartM (A : Nat → Nat → Bool) (S : Nat → Bool) (u : Nat) : Nat := pm (fun j => (S j && !A u j) && j != u)
theorem apart_iff {A : Nat → Nat → Bool} {n : Nat} (hA : RelP n A) (hn : n ≤ 16) {S : Nat → Bool} (hS : ∀ u, S u = true → u < n) :
    (∀ i, i < (listM (pm S)).length → apartM A S (vtxN (listM (pm S)) i) = 0) ↔ missN A (listM (pm S)) = 0 := by
  constructor
  · intro h
    refine missN_zero (fun i k hki hil => ?_)
    have h0 := h k (by omega)
    obtain ⟨p1, p2, _⟩ := vtx_listM (S := S) (k := k) (by omega)
    obtain ⟨q1, q2, _⟩ := vtx_listM (S := S) hil
    have hne : vtxN (listM (pm S)) i ≠ vtxN (listM (pm S)) k := fun e => by have := vtx_inj hil (by omega) e; omega
    have hb : (apartM A S (vtxN (listM (pm S)) k)).testBit (vtxN (listM (pm S)) i) = false := by rw [h0]; simp
    unfold apartM at hb
    rw [pm_bit, decide_eq_true q2, Bool.true_and, q1, Bool.true_and] at hb
    have hne2 : (vtxN (listM (pm S)) i != vtxN (listM (pm S)) k) = true := by rw [bne_iff_ne]; exact hne
    rw [hne2, Bool.and_true] at hb
    simpa using hb
  · intro h i hi
    obtain ⟨p1, p2, _⟩ := vtx_listM (S := S) hi
    apply Nat.eq_of_testBit_eq
    intro j
    unfold apartM
    rw [pm_bit, Nat.zero_testBit]
    by_cases hj : j < 16
    · rw [decide_eq_true hj, Bool.true_and]
      cases hs : S j with
      | false => rfl
      | true =>
        by_cases e : j = vtxN (listM (pm S)) i
        · rw [← e]; simp
        · rw [miss_pair hA hn hS h p1 hs (fun e2 => e e2.symm)]; rfl
    · rw [decide_eq_false hj, Bool.false_and]

set_option maxHeartbeats 2000000 in
set_option maxRecDepth 100000 in
theorem clique_any (bn n : Nat) (A : Nat → Nat → Bool) (S : Nat → Bool) (w : World) (h : NetBlk 83 w bn n (fun i => pm (A i))) (hA : RelP n A) (hn : n ≤ 16) (hS : ∀ u, S u = true → u < n) :
    Calls Tryz.prog 107 #[.pointer (some ⟨bn, 0, none⟩), .int .u32 ((pm S : Nat) : Int)] w fun e w' => e = .returned (.bool (missN A (listM (pm S)) == 0)) ∧ Below w.heap.size w w' := by
  have HIF := Lib.hid (apart_iff hA hn hS)
  obtain ⟨xs, hxs⟩ : ∃ xs, xs = listM (pm S) := ⟨_, rfl⟩
  have hlen := listM_len (pm S)
  have HV : Hid (∀ i, i < xs.length → ∃ u : Nat, nth xs i = (u : Int) ∧ u = vtxN xs i ∧ u < 16) := fun i hi => by
    subst hxs
    obtain ⟨h1, h2, h3⟩ := vtx_listM hi
    exact ⟨_, h3, rfl, h2⟩
  rw [← hxs] at hlen HIF
  have HXS := Lib.hid hxs
  have HN := Lib.hid h
  have hpl : pm S < 65536 := pm_lt _
  rw [← hxs]
  clear h hxs hA hS
  go_enter Tryz.func107, Tryz.ntmps107
  go_wp2_with fail
  refine (list_any (pm S) _ hpl).mono ?_
  rintro e w1 ⟨n1, a1, c1, rfl, ho1, hb1⟩
  rw [← HXS.out] at ho1
  obtain ⟨a3, c3, e3⟩ := ho1.row.slice
  simp only [Value.slice.injEq] at e3
  obtain ⟨rfl, rfl, rfl⟩ := e3
  have HO1 := Lib.hid ho1
  have HB1 := Lib.hid hb1
  clear ho1 hb1
  go_wp2_with fail
  go_loopw [11] (fun i wr => ∃ k : Nat, k ≤ xs.length ∧ i = .int .i64 k ∧ (∀ j, j < k → apartM A S (vtxN xs j) = 0) ∧ Below w1.heap.size w1 wr) (fun i _ => xs.length - (intOf i).toNat)
  case atStart => exact ⟨0, Nat.zero_le _, rfl, fun j hj => absurd hj (by omega), Below.refl _ _⟩
  case round =>
    obtain ⟨k, hk, rfl, hall, hb⟩ := hrel
    have HB := Lib.hid hb
    have HALL := Lib.hid hall
    clear hall
    by_cases hlt : k < xs.length
    · obtain ⟨u, hu, huv, hu16⟩ := HV.out k hlt
      obtain ⟨bx, ox, cx, ex, lx1, lx2, hcx⟩ := HO1.out.row.pos (by omega)
      simp only [Value.slice.injEq, true_and] at ex
      obtain ⟨rfl, rfl⟩ := ex
      have hck := cell_keep hb (hcx k hlt)
      rw [hu] at hck
      have hR := (HN.out.keep HB1.out).keepB hb (by have := (HN.out.keep HB1.out).lt; omega)
      have kr := hR.at.2 u hu16
      have huI : (u : Int) < 16 := by omega
      have e1 : bits BinOp.andNot IntKind.u32 ((pm S : Nat) : Int) ((pm (A u) : Nat) : Int) = ((clrM (pm S) (pm (A u)) : Nat) : Int) := by
        have q1 := pm_lt S
        have q2 := pm_lt (A u)
        rw [u32_andNot_nat _ _ (by omega) (by omega)]; rfl
      have hc1 := clr_pm S (A u)
      have HUV := Lib.hid huv
      clear hb hR hcx huv hu
      go_wp2_with fail
      refine (cut_any wr.heap.size 0 (pm (fun j => S j && !A u j)) (u : Int) _ (by go_simp) (by go_simp) (pm_lt _) (by omega) (by omega)).mono ?_
      rintro e w4 ⟨rfl, hd4⟩
      rw [Int.toNat_natCast, clr_pow _ hu16] at hd4
      have kb4 : w4.cell? ⟨wr.heap.size, 0, none⟩ = some (.int .u32 ((pm (fun j => (S j && !A u j) && j != u) : Nat) : Int)) := by
        refine cell_drawn hd4 ?_
        exact cell_set_same (u := .int .u32 ((pm (fun j => S j && !A u j) : Nat) : Int)) _ (by go_simp)
      have HB4 : Hid (Below w1.heap.size w1 w4) := ((HB.out.alloc HB.out.size _).setCell (p := ⟨wr.heap.size, 0, none⟩) HB.out.size _).trans (hd4.below _)
      have HP : Hid (apartM A S (vtxN xs k) = pm (fun j => (S j && !A u j) && j != u)) := by show _ = _; rw [← HUV.out]; rfl
      obtain ⟨q, hq⟩ : ∃ q, q = pm (fun j => (S j && !A u j) && j != u) := ⟨_, rfl⟩
      rw [← hq] at kb4 HP
      clear hd4 hq hck kr e1 hc1
      by_cases hq0 : q = 0
      · subst hq0
        go_wp2
        go_roundw
        case rel => exact ⟨k + 1, by omega, by go_num, fun j hj => by rcases Nat.lt_succ_iff_lt_or_eq.1 hj with h | h; exact HALL.out j h; subst h; exact HP.out, HB4.out⟩
        case measure => simp [intOf]; omega
      · have hqb : ((q : Int) == 0) = false := by rw [beq_eq_false_iff_ne]; omega
        have HNO : Hid ((missN A xs == 0) = false) := by
          show _ = _
          rw [beq_eq_false_iff_ne]
          intro h0
          have := HIF.out.2 h0 k hlt
          rw [HP.out] at this
          exact hq0 this
        go_wp2
        go_ret
        exact ⟨ret_bool HNO.out.symm, HB1.out.trans (HB4.out.mono HB1.out.size)⟩
    · obtain rfl : k = xs.length := by omega
      have HYS : Hid ((missN A xs == 0) = true) := by
        show _ = _
        rw [beq_iff_eq]
        exact HIF.out.1 HALL.out
      clear hb
      go_wp2
      go_ret
      exact ⟨ret_bool HYS.out.symm, HB1.out.trans (HB.out.mono HB1.out.size)⟩

theorem set_listP {xs : List Int} {n : Nat} (hn : n ≤ 16) (h : SetP xs n) : listM (maskTo xs xs.length) = xs := by
  refine sets_eq (listM_set _) (SetP.mk h.pairwise (fun x hx => by have := h.bounds x hx; omega)) (fun z => ?_)
  have hb := fun i => maskTo_bit xs xs.length i (fun j hj => (h j hj).1)
  rw [listM_mem]
  constructor
  · rintro ⟨i, hi, hb1, rfl⟩
    obtain ⟨j, hj, e⟩ := (hb i).1 hb1
    rw [← e]; exact nth_mem hj
  · intro hz
    have h2 := h.bounds z hz
    obtain ⟨j, hj, e⟩ := List.getElem_of_mem hz
    exact ⟨z.toNat, by omega, (hb _).2 ⟨j, hj, by rw [nth_eq hj, e]; omega⟩, by omega⟩
/-- A set's mask, by who is in it. -/
theorem set_pm {xs : List Int} {n : Nat} (hn : n ≤ 16) (h : SetP xs n) : maskTo xs xs.length = pm (fun u => hasB xs (u : Int)) ∧ listM (pm (fun u => hasB xs (u : Int))) = xs ∧ ∀ u : Nat, hasB xs (u : Int) = true → u < n := by
  have e : maskTo xs xs.length = pm (fun u => hasB xs (u : Int)) := by
    apply Nat.eq_of_testBit_eq
    intro j
    rw [pm_bit, Bool.eq_iff_iff, maskTo_bit xs xs.length j (fun j hj => (h j hj).1), Bool.and_eq_true, decide_eq_true_iff, hasB_mem]
    constructor
    · rintro ⟨i, hi, e⟩
      have hm : (j : Int) ∈ xs := by rw [← e]; exact nth_mem hi
      have := h.bounds _ hm
      exact ⟨by omega, hm⟩
    · rintro ⟨_, hm⟩
      obtain ⟨i, hi, e⟩ := List.getElem_of_mem hm
      exact ⟨i, hi, by rw [nth_eq hi, e]⟩
  refine ⟨e, by rw [← e]; exact set_listP hn h, fun u hu => ?_⟩
  have := h.bounds _ ((hasB_mem _ _).1 hu)
  omega
/-- What CliqueOk answers. -/
def clqB (L : List (List Int)) (xs : List Int) : Bool := setB L xs && (missN (adjB L) xs == 0)

end Go.Proofs.YtohjfcfcopbmoaaGreatDoor

/- Walks: SimplicialIn. -/
namespace Go.Proofs.YtohjfcfcopbmoaaGreatDoor
open Go.RowKit

/-- Those of the first n that satisfy p. -/
def simTo (p : Nat → Bool) : Nat → List Int
  | 0 => []
  | k + 1 => if p k = true then simTo p k ++ [(k : Int)] else simTo p k
theorem simTo_len (p : Nat → Bool) (k : Nat) : (simTo p k).length ≤ k := by
  induction k with
  | zero => exact Nat.le_refl _
  | succ k ih =>
    rw [simTo]
    split
    · rw [List.length_append, List.length_singleton]; omega
    · omega
/-- Are all neighbours of v near each other? -/
def simB (A : Nat → Nat → Bool) (v : Nat) : Bool := missN A (listM (pm (A v))) == 0
/-- What SimplicialIn answers. -/
def simpL (L : List (List Int)) : List Int := if GraphP L then simTo (simB (adjB L)) L.length else []
theorem simpL_small (L : List (List Int)) : (simpL L).length ≤ 16 := by
  unfold simpL
  split
  · rename_i h
    have := simTo_len (simB (adjB L)) L.length
    have := h.1.2
    omega
  · simp

set_option maxHeartbeats 4000000 in
set_option maxRecDepth 100000 in
theorem implSimplicialIn_any (v : Value) (L : List (List Int)) (w : World) (h : GridAt w v L) : Calls Tryz.prog 32 #[.agg #[v]] w (GaveRow w (simpL L)) := by
  obtain ⟨i0, hi, hzi0, hzi1, hzi2⟩ := info_parts Tryz.infoI
  obtain ⟨a0, c0, rfl⟩ := h.slice
  have ha : Below w.heap.size w (w.alloc (.cells #[.slice a0 L.length c0] 26)) := (Below.refl _ _).alloc (Nat.le_refl _) _
  have hk := h.keep ha
  have HA := Lib.hid ha
  clear ha h
  go_enter Tryz.func32, Tryz.ntmps32
  go_wp2_with fail
  refine (netOf_any _ _ _ hk).mono ?_
  rintro e w1 ⟨rfl, hb1⟩
  have HB1 : Hid (Below w.heap.size w w1) := HA.out.trans (hb1.mono (by simp))
  have hz : w.heap.size ≤ w1.heap.size := HB1.out.size
  have hnb := netBlk_new w1 0 (fun _ => 0)
  clear hb1 hk HA
  by_cases hG : GraphP L
  · have hz1 := hG.1
    have HREL := Lib.hid (adjB_rel hG)
    have HRM : Hid (∀ i, i < 16 → rowM L i = pm (adjB L i)) := fun i _ => by rw [rowM_pm hG]
    have HF : Hid (simpL L = simTo (simB (adjB L)) L.length) := if_pos hG
    rw [decide_eq_true hG, netArr_yes hG]
    clear hG
    go_wp2_with (refine wpList_store_net rfl 83 (.tmp 3) (.tmp 10) rfl w1.heap.size L.length (rowM L) rfl rfl Tryz.sizeNet 0 (fun _ => 0) hnb ?_; intro w3 hp; have HN3 := Lib.hid (hp.net.congr rfl HRM.out); have HB3 : Hid (Below w.heap.size w w3) := (HB1.out.alloc hz _).trans (hp.below.mono hz); have hn0 := ((hp.net.congr rfl HRM.out).keep ((Below.refl _ _).alloc (Nat.le_refl _) (.cells #[] 2))).at.1; clear hp)
    have HN4 : Hid (NetBlk 83 (w3.alloc (.cells #[] 2)) w1.heap.size L.length (fun i => pm (adjB L i))) := HN3.out.keep ((Below.refl _ _).alloc (Nat.le_refl _) _)
    have HO4 : Hid (OwnRow 2 (w3.alloc (.cells #[] 2)) w3.heap.size (.slice (some ⟨w3.heap.size, 0, none⟩) 0 0) []) := own_none2 w3 _ (Nat.le_refl _)
    have HZ4 : Hid (Below w3.heap.size w3 (w3.alloc (.cells #[] 2))) := (Below.refl _ _).alloc (Nat.le_refl _) _
    clear hn0
    go_loopw [5, 17] (fun s i wr => ∃ k : Nat, k ≤ L.length ∧ i = .int .i64 k ∧ OwnRow 2 wr w3.heap.size s (simTo (simB (adjB L)) k) ∧ Below w3.heap.size w3 wr) (fun _ i _ => L.length - (intOf i).toNat)
    case atStart => exact ⟨0, Nat.zero_le _, rfl, HO4.out, HZ4.out⟩
    case round =>
      obtain ⟨k, hk, rfl, ho, hb⟩ := hrel
      have HNX : Hid (simTo (simB (adjB L)) (k + 1) = if simB (adjB L) k = true then simTo (simB (adjB L)) k ++ [(k : Int)] else simTo (simB (adjB L)) k) := rfl
      have hyl := simTo_len (simB (adjB L)) k
      obtain ⟨ys, hys⟩ : ∃ ys, ys = simTo (simB (adjB L)) k := ⟨_, rfl⟩
      rw [← hys] at HNX hyl ho
      have HYS := Lib.hid hys
      obtain ⟨a5, c5, e5⟩ := ho.row.slice
      subst e5
      obtain ⟨m, hm⟩ : ∃ m, m = ys.length := ⟨_, rfl⟩
      rw [← hm] at ho hyl ⊢
      have HM := Lib.hid hm
      have HO := Lib.hid ho
      have HB := Lib.hid hb
      have HN := Lib.hid (HN3.out.keep hb)
      clear hm hys ho hb
      by_cases hlt : k < L.length
      · have hk16 : k < 16 := by omega
        have hkI : (k : Int) < 16 := by omega
        have hltI : (k : Int) < (L.length : Int) := by omega
        have kr := HN.out.at.2 k hk16
        have hSR : ∀ u, adjB L k u = true → u < L.length := fun u hu => (HREL.out.range k u hu).2
        have HCL := Lib.hid (clique_any w1.heap.size L.length (adjB L) (adjB L k) wr HN.out HREL.out hz1.2 hSR)
        clear hSR
        go_wp2_with fail
        refine HCL.out.mono ?_
        rintro e w4 ⟨rfl, hb4⟩
        have HB4 : Hid (Below w3.heap.size w3 w4) := HB.out.trans (hb4.mono HB.out.size)
        have HO4 := Lib.hid (HO.out.keep hb4)
        obtain ⟨t, ht⟩ : ∃ t, t = simB (adjB L) k := ⟨_, rfl⟩
        rw [← ht] at HNX
        have HT : Hid ((missN (adjB L) (listM (pm (adjB L k))) == 0) = t) := ht.symm
        rw [HT.out]
        clear hb4 kr HCL ht HT
        cases t with
        | false =>
          go_wp2
          go_roundw
          case rel => exact ⟨k + 1, by omega, by go_num, by rw [HNX.out, if_neg (by simp)]; exact HO4.out, HB4.out⟩
          case measure => simp [intOf]; omega
        | true =>
          have HWO : Hid (w4.ownsRow w3.heap.size 2 1 (.slice a5 m c5) m (ys.map (Value.int .i64))) := by
            have h := HO4.out.owns
            rw [← HM.out] at h
            exact h
          go_wp2_with (at_builtin; refine wpList_append_own _ rfl (.tmp 25) (.tmp 27) 33 rfl w3.heap.size 2 i0 (.int .i64 0) 1 8 Tryz.underlying33 hi hzi0 hzi1 hzi2 rfl (by decide) _ _ _ rfl (HWO.out.alloc _) ⟨w4.heap.size, 0, none⟩ 1 1 [.int .i64 (k : Int)] rfl rfl ?d1 ?d2 ?d3 ?d4 ?d5 ?_)
          case d1 =>
            intro j u hj
            match j, hj with
            | 0, hj =>
              simp at hj; subst hj
              simp [Addr.add]
          case d2 => intro u hu; simp at hu; subst hu; rfl
          case d3 => unfold maxLen; omega
          case d4 => omega
          case d5 => have := HB4.out.size; simp; omega
          intro v12 w12 hown12 hgrow12 _
          have hb12 : Below w3.heap.size w4 w12 := ((Below.refl _ _).alloc HB4.out.size _).grown hgrow12 (by have := HB4.out.size; simp; omega) (fun j hj => (HWO.out.lt j hj).1)
          have HEND : Hid (OwnRow 2 w12 w3.heap.size v12 (simTo (simB (adjB L)) (k + 1)) ∧ Below w3.heap.size w3 w12) := by
            rw [HNX.out]
            simp only [if_true]
            refine ⟨?_, HB4.out.trans (hb12.mono (Nat.le_refl _))⟩
            exact OwnRow.of_ownsRow (xs := ys ++ [(k : Int)]) (n := m + 1) (by simpa using hown12) (by rw [List.length_append, ← HM.out, List.length_singleton]; unfold maxLen; omega) (fun z hz => by
              rcases List.mem_append.1 hz with hz | hz
              · exact HO4.out.1 z hz
              · rw [List.mem_singleton] at hz; subst hz; unfold I64; omega)
          clear hown12 hgrow12 hb12
          go_wp2
          go_roundw
          case rel => exact ⟨k + 1, by omega, by go_num, HEND.out.1, HEND.out.2⟩
          case measure => simp [intOf]; omega
      · obtain rfl : k = L.length := by omega
        go_wp2
        go_ret
        exact ⟨_, _, _, rfl, by rw [HF.out, ← HYS.out]; exact HO.out.mono HB3.out.size, HB3.out.trans (HB.out.mono HB3.out.size)⟩
  · have HI : Hid (simpL L = []) := if_neg hG
    rw [decide_eq_false hG, netArr_no hG]
    clear hG
    go_wp2_with (refine wpList_store_net rfl 83 (.tmp 3) (.tmp 10) rfl w1.heap.size 0 (fun _ => 0) rfl rfl Tryz.sizeNet 0 (fun _ => 0) hnb ?_; intro w3 hp; have HB3 : Hid (Below w.heap.size w w3) := (HB1.out.alloc hz _).trans (hp.below.mono hz); clear hp)
    go_ret
    exact ⟨0, none, 0, rfl, by rw [HI.out]; exact ⟨by simp, by simp, Or.inl ⟨rfl, rfl⟩⟩, HB3.out⟩

end Go.Proofs.YtohjfcfcopbmoaaGreatDoor
