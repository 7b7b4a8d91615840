/- The texts LL3, CB3, CB4, joined. -/
import Derived.Test.YtohjfcfcopbmoaaGreatDoorPO5
import Derived.Test.YtohjfcfcopbmoaaGreatDoorQLater
import Derived.Test.YtohjfcfcopbmoaaGreatDoorQN4
import Derived.Test.YtohjfcfcopbmoaaGreatDoorQK2
import Derived.Test.YtohjfcfcopbmoaaGreatDoorQF6
import Derived.Test.YtohjfcfcopbmoaaGreatDoorQE1
import Derived.Test.YtohjfcfcopbmoaaGreatDoorQF4
import Derived.Test.YtohjfcfcopbmoaaGreatDoorQY1
import Derived.Test.YtohjfcfcopbmoaaGreatDoorQY2
import Derived.Test.YtohjfcfcopbmoaaGreatDoorQCB1

/- Walks: the least loop, of the program. -/
namespace Go.Proofs.YtohjfcfcopbmoaaGreatDoor
open Go.RowKit

/-- A slice against nil. -/
theorem eqIn_nil (d : Nat) (a : Option Addr) (n c : Nat) (w : World) : (Op.equalIn (d + 1) 33 (.slice a n c) (.slice none 0 0)).run Tryz.prog w = .ok a.isNone w := by
  cases a <;> simp [Op.equalIn, run_underlying Tryz.underlying33]
theorem equal_nil (a : Option Addr) (n c : Nat) (w : World) : (Op.equal 33 (.slice a n c) (.slice none 0 0)).run Tryz.prog w = .ok a.isNone w := eqIn_nil 9999 a n c w
theorem eql_no (a : Addr) (n c : Nat) (w : World) : (binOp .eql 33 (.slice (some a) n c) (.slice none 0 0)).run Tryz.prog w = .ok (.bool false) w := by
  simp [binOp, equal_nil]
theorem eql_yes (w : World) : (binOp .eql 33 (.slice none 0 0) (.slice none 0 0)).run Tryz.prog w = .ok (.bool true) w := by
  simp [binOp, equal_nil]
theorem neq_yes (a : Addr) (n c : Nat) (w : World) : (binOp .neq 33 (.slice (some a) n c) (.slice none 0 0)).run Tryz.prog w = .ok (.bool true) w := by
  simp [binOp, equal_nil]
theorem neq_no (w : World) : (binOp .neq 33 (.slice none 0 0) (.slice none 0 0)).run Tryz.prog w = .ok (.bool false) w := by
  simp [binOp, equal_nil]

/-- A row of one's own has been handed back; an empty one is nil. -/
def GaveNil (w : World) (xs : List Int) (e : Ending) (w' : World) : Prop := GaveRow w xs e w' ∧ (xs = [] → e = .returned (.slice none 0 0))

end Go.Proofs.YtohjfcfcopbmoaaGreatDoor

/- Walks: the way round a bend. -/
namespace Go.Proofs.YtohjfcfcopbmoaaGreatDoor
open Go.RowKit

/-- What chordlessBy answers. -/
noncomputable def chN (M : Nat → Nat) (n u v x : Nat) : List Int := if pathN (insM M (bendK M n u v x)) n v x = [] then [] else (u : Int) :: pathN (insM M (bendK M n u v x)) n v x

theorem pathN_le {M : Nat → Nat} {n u v : Nat} (hn : n ≤ 16) : (pathN M n u v).length ≤ 16 := by
  unfold pathN
  split
  · rename_i h
    rw [wayD_len]
    have := dOf_lt (A := nearM M) (v := v) (S := allS n) (n := n) (fun u hu => (allS_iff _ _).1 hu) u
    omega
  · simp

set_option maxHeartbeats 4000000 in
set_option maxRecDepth 100000 in
theorem chordlessBy_any (g n u v x : Nat) (M : Nat → Nat) (w : World) (h : NetBlk 83 w g n M) (hT : TabAt w) (hM : ∀ i, M i < 65536) (hn : 1 ≤ n ∧ n ≤ 16) (hu : u < n) (hv : v < n) (hx : x < n) (hA : ∀ a b, nearM M a b = nearM M b a) :
    Calls Tryz.prog 98 #[.pointer (some ⟨g, 0, none⟩), .int .i64 (u : Int), .int .i64 (v : Int), .int .i64 (x : Int)] w (GaveNil w (chN M n u v x)) := by
  obtain ⟨i0, hi, hz0, hz1, hz2⟩ := info_parts Tryz.infoI
  have hg := h.lt
  have kn := h.at.1
  have km := h.at.2 u (by omega)
  have HNK : Hid (∀ w', Below w.heap.size w w' → NetBlk 83 w' g n M) := fun w' hb => h.keep hb
  have HT : Hid (∀ w', Below w.heap.size w w' → TabAt w') := fun w' hb => hT.keep hb
  have HM := Lib.hid hM
  have HA := Lib.hid hA
  have hu16 : (u : Int) < 16 := by omega
  clear h hT hM hA
  go_enter Tryz.func98, Tryz.ntmps98
  have KS : Hid (∀ W, Below w.heap.size w W → W.cell? ⟨g, 0, none⟩ = some (.int .i64 (n : Int)) ∧ W.cell? ⟨g, 1 + u, none⟩ = some (.int .u32 ((M u : Nat) : Int))) := fun W hb => ⟨cell_keep hb kn, cell_keep hb km⟩
  have ks := KS.out _ (Below.refl _ _)
  have hbits : bits BinOp.andNot IntKind.u32 ((2 ^ n - 1 : Nat) : Int) ((M u : Nat) : Int) = ((clrM (2 ^ n - 1) (M u) : Nat) : Int) := by
    have h1 : 2 ^ n - 1 < 65536 := by
      have := Nat.pow_le_pow_right (show 0 < 2 by omega) hn.2
      omega
    have := HM.out u
    rw [u32_andNot_nat _ _ (by omega) (by omega)]; rfl
  clear kn km
  go_wp2_with fail
  go_region_held3 (fun wy => wy.cell? ⟨g, 0, none⟩ = some (.int .i64 (n : Int)) ∧ wy.cell? ⟨g, 1 + u, none⟩ = some (.int .u32 ((M u : Nat) : Int))) (first | exact ks | with_reducible exact KS.out _ (Below.refl _ _).drew | with_reducible exact KS.out _ ((Below.refl _ _).alloc (Nat.le_refl _) _).drew | with_reducible exact KS.out _ ((Below.refl _ _).alloc (Nat.le_refl _) _))
    (first
      | (go_at_call 186; with_reducible refine (wholeMask_any n _ hn.2).mono ?_; rintro e w' ⟨rfl, rfl⟩))
  all_goals (
    have hk1 : BoxT 80 ((w.alloc (.cells #[.int .u32 ((clrM (2 ^ n - 1) (M u) : Nat) : Int)] 80)).drew) w.heap.size (.int .u32 ((clrM (2 ^ n - 1) (M u) : Nat) : Int)) := (BoxT.new _ _ _).keep (Below.refl _ _).drew
    have hb1 : Below w.heap.size w ((w.alloc (.cells #[.int .u32 ((clrM (2 ^ n - 1) (M u) : Nat) : Int)] 80)).drew) := ((Below.refl _ _).alloc (Nat.le_refl _) _).drew
    generalize (w.alloc (.cells #[.int .u32 ((clrM (2 ^ n - 1) (M u) : Nat) : Int)] 80)).drew = w1 at hk1 hb1 ⊢
    have HB1 := Lib.hid hb1
    have HK1 := Lib.hid hk1
    have hK1 : clrM (2 ^ n - 1) (M u) < 65536 := clrM_lt _ (by
      have := Nat.pow_le_pow_right (show 0 < 2 by omega) hn.2
      omega)
    have h2u : 2 ^ u < 65536 := pow_lt16 (by omega)
    have h2v : 2 ^ v < 65536 := pow_lt16 (by omega)
    have h2x : 2 ^ x < 65536 := pow_lt16 (by omega)
    obtain ⟨K1, hK1e⟩ : ∃ K1, K1 = clrM (2 ^ n - 1) (M u) := ⟨_, rfl⟩
    rw [← hK1e] at HK1 hK1 hbits
    have hk1' := HK1.out.box
    have hlow : w.heap.size < w1.heap.size := HK1.out.lt
    clear hk1 hb1 ks hbits
    go_wp2_with fail
    refine (cut_any w.heap.size 0 K1 (u : Int) _ hk1'.1 hk1'.2 hK1 (by omega) hu16).mono ?_
    rintro e w2 ⟨rfl, hd2⟩
    rw [Int.toNat_natCast] at hd2
    have HK2 : Hid (BoxT 80 w2 w.heap.size (.int .u32 ((clrM K1 (2 ^ u) : Nat) : Int))) := (HK1.out.set _).keep (hd2.below _)
    have HB2 : Hid (Below w.heap.size w w2) := (HB1.out.setCell (p := ⟨w.heap.size, 0, none⟩) (Nat.le_refl _) _).trans (hd2.below _)
    have hK2 : clrM K1 (2 ^ u) < 65536 := clrM_lt _ hK1
    obtain ⟨K2, hK2e⟩ : ∃ K2, K2 = clrM K1 (2 ^ u) := ⟨_, rfl⟩
    rw [← hK2e] at HK2 hK2
    have hk2' := HK2.out.box
    clear hd2 hk1' HK1 HB1
    go_wp2_with fail
    refine (add_any w.heap.size 0 K2 (v : Int) _ hk2'.1 hk2'.2 hK2 (by omega) (by omega)).mono ?_
    rintro e w3 ⟨rfl, hd3⟩
    rw [Int.toNat_natCast] at hd3
    have HK3 : Hid (BoxT 80 w3 w.heap.size (.int .u32 ((K2 ||| 2 ^ v : Nat) : Int))) := (HK2.out.set _).keep (hd3.below _)
    have HB3 : Hid (Below w.heap.size w w3) := (HB2.out.setCell (p := ⟨w.heap.size, 0, none⟩) (Nat.le_refl _) _).trans (hd3.below _)
    have hK3 : K2 ||| 2 ^ v < 65536 := or_lt16 hK2 (by omega)
    obtain ⟨K3, hK3e⟩ : ∃ K3, K3 = K2 ||| 2 ^ v := ⟨_, rfl⟩
    rw [← hK3e] at HK3 hK3
    have hk3' := HK3.out.box
    clear hd3 hk2' HK2 HB2
    go_wp2_with fail
    refine (add_any w.heap.size 0 K3 (x : Int) _ hk3'.1 hk3'.2 hK3 (by omega) (by omega)).mono ?_
    rintro e w4 ⟨rfl, hd4⟩
    rw [Int.toNat_natCast] at hd4
    have HK4 : Hid (BoxT 80 w4 w.heap.size (.int .u32 ((K3 ||| 2 ^ x : Nat) : Int))) := (HK3.out.set _).keep (hd4.below _)
    have HB4 : Hid (Below w.heap.size w w4) := (HB3.out.setCell (p := ⟨w.heap.size, 0, none⟩) (Nat.le_refl _) _).trans (hd4.below _)
    have hK4 : K3 ||| 2 ^ x < 65536 := or_lt16 hK3 (by omega)
    have hKe : K3 ||| 2 ^ x = bendK M n u v x := by rw [hK3e, hK2e, hK1e]; rfl
    rw [hKe] at HK4 hK4
    have hk4' := HK4.out.box.1
    clear hd4 hk3' HK3 HB3 hK3e hK2e hK1e hKe hK1 hK2 hK3
    obtain ⟨K, hKd⟩ : ∃ K, K = bendK M n u v x := ⟨_, rfl⟩
    rw [← hKd] at HK4 hK4 hk4'
    have HKD := Lib.hid hKd
    clear hKd
    go_wp2_with fail
    refine (inside_any g n M K _ (HNK.out _ HB4.out) HM.out hK4).mono ?_
    rintro e w5 ⟨rfl, hb5⟩
    have HB5 : Hid (Below w.heap.size w w5) := HB4.out.trans (hb5.mono HB4.out.size)
    have hnb := netBlk_new w5 0 (fun _ => 0)
    clear hb5 hk4' HK4
    go_wp2_with (refine wpList_store_net rfl 83 (.tmp 10) (.tmp 32) rfl w5.heap.size n (insM M K) rfl rfl Tryz.sizeNet 0 (fun _ => 0) hnb ?_; intro w6 hp6; have HN6 := Lib.hid hp6.net; have HB6 : Hid (Below w5.heap.size w5 w6) := hp6.since; clear hp6)
    rename World => w6
    have HAS : Hid (∀ a b, nearM (insM M K) a b = nearM (insM M K) b a) := fun a b => by
      rw [insM_near, insM_near, HA.out a b]
      cases nearM M b a <;> cases K.testBit a <;> cases K.testBit b <;> rfl
    have HB56 : Hid (Below w.heap.size w w6) := HB5.out.trans (HB6.out.mono HB5.out.size)
    refine (path_full w5.heap.size n v x (insM M K) _ HN6.out.at (HT.out _ HB56.out) (insM_lt HM.out K) hn HAS.out hv hx).mono ?_
    rintro e w7 ⟨⟨n7, a7, c7, rfl, ho7, hb7⟩, hnil⟩
    have HB7 : Hid (Below w.heap.size w w7) := HB56.out.trans (hb7.mono HB56.out.size)
    have hw7 : w.heap.size ≤ w7.heap.size := HB7.out.size
    by_cases hb0 : pathN (insM M K) n v x = []
    · have HCE : Hid (chN M n u v x = []) := by
        show _ = _
        unfold chN
        rw [← HKD.out, if_pos hb0]
      have he := hnil hb0
      simp only [Ending.returned.injEq, Value.slice.injEq] at he
      obtain ⟨rfl, rfl, rfl⟩ := he
      clear ho7 hb7 hb0 hnil
      have heq := eql_yes
      go_wp2
      go_ret
      exact ⟨⟨0, none, 0, rfl, by rw [HCE.out]; exact ⟨by simp, Nat.zero_le _, .inl ⟨rfl, rfl⟩⟩, HB7.out⟩, fun _ => rfl⟩
    · have HCY : Hid (chN M n u v x = (u : Int) :: pathN (insM M K) n v x) := by
        show _ = _
        unfold chN
        rw [← HKD.out, if_neg hb0]
      have HI := Lib.hid ho7.1
      have hlen : (pathN (insM M K) n v x).length ≤ 16 := pathN_le hn.2
      obtain ⟨X, hX⟩ : ∃ X, X = pathN (insM M K) n v x := ⟨_, rfl⟩
      rw [← hX] at ho7 hb0 hlen HCY HI
      have hX0 : 0 < X.length := List.length_pos_iff.2 hb0
      obtain ⟨gw, cw, e8, hgwB, hgwl, hcw1, hcw2⟩ := ho7.posB (by omega)
      simp only [Value.slice.injEq] at e8
      obtain ⟨rfl, rfl, rfl⟩ := e8
      have HXC : Hid (∀ i, i < X.length → w7.cell? ⟨gw, i, none⟩ = some (.int .i64 (nth X i))) := fun i hi => ho7.cells' i hi
      have HOW9 : Hid ((w7.alloc (.cells #[.int .i64 (u : Int)] 2)).ownsRow w7.heap.size 2 1 (.slice (some ⟨w7.heap.size, 0, none⟩) 1 1) 1 [.int .i64 (u : Int)]) := World.ownsRow_lit w7 #[.int .i64 (u : Int)] 1 (Nat.le_refl _) (by unfold maxLen; omega) rfl
      clear ho7 hb7 hb0 hnil hX HN6
      have heq := eql_no
      go_wp2_with (at_builtin; refine wpList_append_own _ rfl (.tmp 39) (.tmp 40) 33 rfl w7.heap.size 2 i0 (.int .i64 0) 1 8 Tryz.underlying33 hi hz0 hz1 hz2 rfl (by decide) _ _ _ rfl HOW9.out ⟨gw, 0, none⟩ X.length c7 (X.map (Value.int .i64)) rfl ?d0 ?d1 (ints_one _) ?d3 ?d4 ?d5 ?_)
      case d0 => simp
      case d1 =>
        intro j z hj
        rw [List.getElem?_map] at hj
        obtain ⟨y, hy, rfl⟩ := Option.map_eq_some_iff.1 hj
        obtain ⟨hjl, e⟩ := List.getElem?_eq_some_iff.1 hy
        have := cell_keep (w' := w7.alloc (.cells #[.int .i64 (u : Int)] 2)) ((Below.refl _ _).alloc (Nat.le_refl _) _) (HXC.out j hjl)
        rw [nth_eq hjl, e] at this
        unfold Addr.add
        split
        · rename_i e0; subst e0; exact this
        · simpa using this
      case d3 => unfold maxLen; omega
      case d4 => omega
      case d5 => simp
      intro v9 w9 hown9 hgrow9 _
      have hb9 : Below w7.heap.size w7 w9 := ((Below.refl _ _).alloc (Nat.le_refl _) _).grown hgrow9 (by simp) (fun j hj => by simp [Value.ownBlock] at hj; omega)
      have HO9 : Hid (OwnRow 2 w9 w7.heap.size v9 (chN M n u v x)) := by
        show OwnRow _ _ _ _ _
        rw [HCY.out]
        refine OwnRow.of_ownsRow (n := 1 + X.length) (by simpa using hown9) (by simp; unfold maxLen; omega) (fun y hy => ?_)
        rcases List.mem_cons.1 hy with rfl | hy
        · unfold I64; omega
        · exact HI.out y hy
      have HB9 : Hid (Below w.heap.size w w9) := HB7.out.trans (hb9.mono hw7)
      have HCN : Hid (chN M n u v x ≠ []) := fun e => by have := HCY.out; rw [this] at e; cases e
      obtain ⟨a9, c9, e9⟩ := HO9.out.row.slice
      subst e9
      clear hown9 hgrow9 hb9
      go_wp2
      go_ret
      exact ⟨⟨_, _, _, rfl, HO9.out.mono hw7, HB9.out⟩, fun e => absurd e HCN.out⟩)

end Go.Proofs.YtohjfcfcopbmoaaGreatDoor

/- Plain facts: the best of the ways round all bends, in the order in which the program takes them, is the least loop without a chord. -/
namespace Go.Proofs.YtohjfcfcopbmoaaGreatDoor
open Go.RowKit

theorem chN_seen (M : Nat → Nat) (n u v x : Nat) : (chN M n u v x = [] ∧ ∀ d, ¬ AtD (nearM (insM M (bendK M n u v x))) (allS n) x d v) ∨ ∃ d, AtD (nearM (insM M (bendK M n u v x))) (allS n) x d v ∧ chN M n u v x = (u : Int) :: wayD (insM M (bendK M n u v x)) (ringN (nearM (insM M (bendK M n u v x))) (allS n) x) d v d := by
  classical
  rcases Classical.em (∃ d, AtD (nearM (insM M (bendK M n u v x))) (allS n) x d v) with ⟨d, hd⟩ | hno
  · right
    refine ⟨d, hd, ?_⟩
    unfold chN
    rw [pathN_at hd, if_neg]
    intro e
    have := wayD_len (insM M (bendK M n u v x)) (ringN (nearM (insM M (bendK M n u v x))) (allS n) x) d v d
    rw [e] at this
    simp at this
  · left
    have hn : ∀ d, ¬ AtD (nearM (insM M (bendK M n u v x))) (allS n) x d v := fun d hd => hno ⟨d, hd⟩
    refine ⟨?_, hn⟩
    unfold chN
    rw [if_pos (pathN_no hn)]
/-- The ends of the bends at u whose first is v. -/
def bendW (M : Nat → Nat) (u v : Nat) : List Nat := (List.range 16).filter (fun x => (M u).testBit x && !(M v).testBit x && decide (v < x))
/-- The bends at u. -/
def bendV (M : Nat → Nat) (u : Nat) : List (Nat × Nat × Nat) := ((List.range 16).filter (fun v => (M u).testBit v)).flatMap (fun v => (bendW M u v).map (fun x => (u, v, x)))
/-- All bends. -/
def bendZ (M : Nat → Nat) (n : Nat) : List (Nat × Nat × Nat) := (List.range n).flatMap (bendV M)
theorem bendZ_mem {M : Nat → Nat} {n : Nat} (hA : RelP n (nearM M)) (hn : n ≤ 16) (t : Nat × Nat × Nat) : t ∈ bendZ M n ↔ Bend (nearM M) t.1 t.2.1 t.2.2 := by
  obtain ⟨u, v, x⟩ := t
  unfold bendZ bendV bendW
  simp only [List.mem_flatMap, List.mem_map, List.mem_filter, List.mem_range, Bool.and_eq_true, Bool.not_eq_true', decide_eq_true_iff, Prod.mk.injEq]
  constructor
  · rintro ⟨u', hu, v', ⟨hv, h1⟩, x', ⟨hx, ⟨h2, h3⟩, h4⟩, rfl, rfl, rfl⟩
    exact ⟨h1, h2, h3, h4⟩
  · intro h
    have h1 := hA.range u v h.left
    have h2 := hA.range u x h.right
    exact ⟨u, h1.1, v, ⟨by omega, h.left⟩, x, ⟨by omega, ⟨h.right, h.open_⟩, h.lt⟩, rfl, rfl, rfl⟩
/-- The best way round the bends of a list. -/
noncomputable def bestZ (M : Nat → Nat) (n : Nat) (Z : List (Nat × Nat × Nat)) : List Int := Z.foldl (fun b t => betterR b (chN M n t.1 t.2.1 t.2.2)) []
theorem bestZ_snoc (M : Nat → Nat) (n : Nat) (Z : List (Nat × Nat × Nat)) (t : Nat × Nat × Nat) : bestZ M n (Z ++ [t]) = betterR (bestZ M n Z) (chN M n t.1 t.2.1 t.2.2) := by
  unfold bestZ
  rw [List.foldl_append]
  rfl
theorem bestZ_cls {M : Nat → Nat} {n : Nat} (hA : RelP n (nearM M)) (hM : ∀ i, M i < 65536) (hn : n ≤ 16) : bestZ M n (bendZ M n) = clsL (nearM M) :=
  bends_cls (c := fun t => chN M n t.1 t.2.1 t.2.2) (T := allS n) hA hM hn (fun t => allS_iff n t) (bendZ_mem hA hn) (fun t _ => chN_seen M n t.1 t.2.1 t.2.2)
theorem bestZ_seen {M : Nat → Nat} {n : Nat} (hA : RelP n (nearM M)) (hM : ∀ i, M i < 65536) (hn : n ≤ 16) : SeenR (ChlP (nearM M)) (ChlP (nearM M)) (bestZ M n (bendZ M n)) :=
  bends_seen (c := fun t => chN M n t.1 t.2.1 t.2.2) (T := allS n) hA hM hn (fun t => allS_iff n t) (bendZ_mem hA hn) (fun t _ => chN_seen M n t.1 t.2.1 t.2.2)
theorem chN_len {M : Nat → Nat} {n u v x : Nat} (hn : n ≤ 16) : (chN M n u v x).length ≤ 17 := by
  unfold chN
  split
  · simp
  · have := pathN_le (M := insM M (bendK M n u v x)) (u := v) (v := x) hn
    rw [List.length_cons]; omega
theorem bestZ_len {M : Nat → Nat} {n : Nat} (hn : n ≤ 16) (Z : List (Nat × Nat × Nat)) : (bestZ M n Z).length ≤ 17 := by
  have key : ∀ (Z : List (Nat × Nat × Nat)) (b : List Int), b.length ≤ 17 → (Z.foldl (fun b t => betterR b (chN M n t.1 t.2.1 t.2.2)) b).length ≤ 17 := by
    intro Z
    induction Z with
    | nil => intro b hb; exact hb
    | cons t Z ih =>
      intro b hb
      rw [List.foldl_cons]
      refine ih _ ?_
      unfold betterR
      split
      · exact chN_len hn
      · exact hb
  exact key Z [] (by simp)

end Go.Proofs.YtohjfcfcopbmoaaGreatDoor
