/- The texts LL3, LL4, OL1, joined. -/
import Derived.Test.YtnjkhiheapmlmaaDoorQPO6
import Derived.Test.YtnjkhiheapmlmaaDoorQPO1
import Derived.Test.YtnjkhiheapmlmaaDoorQZ1
import Derived.Test.YtnjkhiheapmlmaaDoorQY1

/- Walks: the least loop, of the program. -/
namespace Go.Proofs.YtnjkhiheapmlmaaDoor
open Go.RowKit

/-- A slice against nil. -/
theorem eqIn_nil (d : Nat) (a : Option Addr) (n c : Nat) (w : World) : (Op.equalIn (d + 1) 28 (.slice a n c) (.slice none 0 0)).run Tryd.prog w = .ok a.isNone w := by
  cases a <;> simp [Op.equalIn, run_underlying Tryd.underlying28]
theorem equal_nil (a : Option Addr) (n c : Nat) (w : World) : (Op.equal 28 (.slice a n c) (.slice none 0 0)).run Tryd.prog w = .ok a.isNone w := eqIn_nil 9999 a n c w
theorem eql_no (a : Addr) (n c : Nat) (w : World) : (binOp .eql 28 (.slice (some a) n c) (.slice none 0 0)).run Tryd.prog w = .ok (.bool false) w := by
  simp [binOp, equal_nil]
theorem eql_yes (w : World) : (binOp .eql 28 (.slice none 0 0) (.slice none 0 0)).run Tryd.prog w = .ok (.bool true) w := by
  simp [binOp, equal_nil]
theorem neq_yes (a : Addr) (n c : Nat) (w : World) : (binOp .neq 28 (.slice (some a) n c) (.slice none 0 0)).run Tryd.prog w = .ok (.bool true) w := by
  simp [binOp, equal_nil]
theorem neq_no (w : World) : (binOp .neq 28 (.slice none 0 0) (.slice none 0 0)).run Tryd.prog w = .ok (.bool false) w := by
  simp [binOp, equal_nil]

/-- A row of one's own has been handed back; an empty one is nil. -/
def GaveNil (w : World) (xs : List Int) (e : Ending) (w' : World) : Prop := GaveRow w xs e w' ∧ (xs = [] → e = .returned (.slice none 0 0))

set_option maxHeartbeats 4000000 in
set_option maxRecDepth 100000 in
theorem loopBy_any (bn n s u : Nat) (M : Nat → Nat) (w : World) (h : NetBlk 47 w bn n M) (hT : TabAt w) (hM : ∀ i, M i < 65536) (hn : 1 ≤ n ∧ n ≤ 16) (hs : s < n) (hu : u < n) (hsu : s ≠ u) (hA : ∀ a b, nearM (cutMs M s u) a b = nearM (cutMs M s u) b a) :
    Calls Tryd.prog 44 #[.pointer (some ⟨bn, 0, none⟩), .int .i64 (s : Int), .int .i64 (u : Int)] w (GaveNil w (candN M n s u)) := by
  obtain ⟨i0, hi, hz0, hz1, hz2⟩ := info_parts Tryd.infoI
  have hnb := netBlk_new w 0 (fun _ => 0)
  have hbl := h.lt
  have hnt := h.keep ((Below.refl _ _).alloc (Nat.le_refl _) (.cells (netArr 0 (fun _ => 0)) 47))
  have HT := Lib.hid hT
  have HAS := Lib.hid hA
  clear hT hA
  go_enter Tryd.func44, Tryd.ntmps44
  go_wp2_with (first | (refine wpList_load_net rfl 47 (.tmp 10) rfl bn n M rfl Tryd.sizeNet _ Tryd.underlying47 rfl h ?_) | (refine wpList_store_net rfl 47 (.tmp 7) (.tmp 11) rfl w.heap.size n M rfl rfl Tryd.sizeNet 0 (fun _ => 0) hnb ?_; intro w3 hp; have HN3 := Lib.hid hp.net; have HB3 : Hid (Below w.heap.size w w3) := hp.since; clear hp))
  have hc3 := HN3.out.at.2 s (by omega)
  have hf3 := HN3.out.frozen (1 + s)
  have hMs := hM s
  have hMu := hM u
  refine (cut_any _ _ _ _ _ hc3 hf3 hMs (by omega) (by omega)).mono ?_
  rintro e w4 ⟨rfl, hd4⟩
  rw [Int.toNat_natCast] at hd4
  have HN4 := Lib.hid ((HN3.out.set s (clrM (M s) (2 ^ u)) (by omega)).drawn hd4)
  have HB4 : Hid (Below w.heap.size w w4) := (HB3.out.setCell (p := ⟨w.heap.size, 1 + s, none⟩) (Nat.le_refl _) _).trans (hd4.below _)
  clear hd4 hc3 hf3 HN3 HB3 hnb hnt
  go_wp2_with fail
  have hc4 := HN4.out.at.2 u (by omega)
  dsimp only at hc4
  rw [if_neg (fun e => hsu e.symm)] at hc4
  have hf4 := HN4.out.frozen (1 + u)
  refine (cut_any _ _ _ _ _ hc4 hf4 hMu (by omega) (by omega)).mono ?_
  rintro e w5 ⟨rfl, hd5⟩
  rw [Int.toNat_natCast] at hd5
  have HN5 : Hid (NetBlk 47 w5 w.heap.size n (cutMs M s u)) := ((HN4.out.set u (clrM (M u) (2 ^ s)) (by omega)).drawn hd5).congr rfl (fun j hj => rfl)
  have HB5 : Hid (Below w.heap.size w w5) := (HB4.out.setCell (p := ⟨w.heap.size, 1 + u, none⟩) (Nat.le_refl _) _).trans (hd5.below _)
  clear hd5 hc4 hf4 HN4 HB4
  go_wp2_with fail
  refine (path_full w.heap.size n u s (cutMs M s u) _ HN5.out.at (HT.out.keep HB5.out) (cutMs_lt hM s u) hn HAS.out hu hs).mono ?_
  rintro e w6 ⟨⟨n6, a6, c6, rfl, ho6, hb6⟩, hnil⟩
  have HB6 : Hid (Below w.heap.size w w6) := HB5.out.trans (hb6.mono HB5.out.size)
  have ho6' : OwnRow 2 w6 w5.heap.size (.slice a6 n6 c6) (backN M n s u) := ho6
  have hw6 : w.heap.size ≤ w6.heap.size := HB6.out.size
  by_cases hb0 : backN M n s u = []
  · have HCE := Lib.hid (candN_no hb0)
    have he := hnil hb0
    simp only [Ending.returned.injEq, Value.slice.injEq] at he
    obtain ⟨rfl, rfl, rfl⟩ := he
    clear ho6 ho6' hb6 hb0 hnil HN5 HB5
    have heq := eql_yes
    go_wp2
    go_ret
    exact ⟨⟨0, none, 0, rfl, by rw [HCE.out]; exact ⟨by simp, Nat.zero_le _, .inl ⟨rfl, rfl⟩⟩, HB6.out⟩, fun _ => rfl⟩
  · have hbi := backN_i64 hn.2 hM HAS.out hsu hb0
    have hb16 := backN_len (M := M) (s := s) (u := u) hn.2
    have HCY := Lib.hid (candN_yes hb0)
    have HCN := Lib.hid (candN_ne hb0)
    have HBI := Lib.hid hbi.2.2
    have hb2 := hbi.1
    obtain ⟨X, hX⟩ : ∃ X, X = backN M n s u := ⟨_, rfl⟩
    rw [← hX] at ho6' hb2 hb16 HCY HBI
    obtain ⟨gw, cw, e8, hgwB, hgwl, hcw1, hcw2⟩ := ho6'.posB (by omega)
    simp only [Value.slice.injEq] at e8
    obtain ⟨rfl, rfl, rfl⟩ := e8
    obtain ⟨m, hm⟩ : ∃ m, X.length = m + 1 := ⟨X.length - 1, by omega⟩
    have HXC : Hid (∀ i, i < X.length → w6.cell? ⟨gw, i, none⟩ = some (.int .i64 (nth X i))) := fun i hi => ho6'.cells' i hi
    have hwm : IntKind.i64.wrap (((m + 1 : Nat) : Int) - 1) = (m : Int) := by rw [show ((m + 1 : Nat) : Int) - 1 = (m : Int) from by omega]; exact IntWalk.i64_in _ (by omega)
    have hms : (((m + 1 : Nat) : Int) - 1) = (m : Int) := by omega
    have HM := Lib.hid hm
    rw [hm] at hcw1 hb2 hb16 ⊢
    have HOW9 : Hid ((w6.alloc (.cells #[.int .i64 (s : Int)] 2)).ownsRow w6.heap.size 2 1 (.slice (some ⟨w6.heap.size, 0, none⟩) 1 1) 1 [.int .i64 (s : Int)]) := World.ownsRow_lit w6 #[.int .i64 (s : Int)] 1 (Nat.le_refl _) (by unfold maxLen; omega) rfl
    have hm0 : (0 : Int) ≤ (m : Int) := by omega
    have hm1 : (m : Int) ≤ ((m + 1 : Nat) : Int) := by omega
    have hmc : (m : Int) ≤ (c6 : Int) := by omega
    have hmc' : m ≤ c6 := by omega
    clear ho6 ho6' hb6 hb0 hnil HN5 HB5 hbi hX hm
    have heq := eql_no
    go_wp2_with (at_builtin; refine wpList_append_own _ rfl (.tmp 28) (.tmp 33) 28 rfl w6.heap.size 2 i0 (.int .i64 0) 1 8 Tryd.underlying28 hi hz0 hz1 hz2 rfl (by decide) _ _ _ rfl HOW9.out ⟨gw, 0, none⟩ m c6 ((X.take m).map (Value.int .i64)) rfl ?d0 ?d1 (ints_one _) ?d3 ?d4 ?d5 ?_)
    case d0 => simp; have := HM.out; omega
    case d1 =>
      intro j z hj
      rw [List.getElem?_map] at hj
      obtain ⟨y, hy, rfl⟩ := Option.map_eq_some_iff.1 hj
      rw [List.getElem?_take] at hy
      split at hy
      · obtain ⟨hjl, e⟩ := List.getElem?_eq_some_iff.1 hy
        have := cell_keep (w' := w6.alloc (.cells #[.int .i64 (s : Int)] 2)) ((Below.refl _ _).alloc (Nat.le_refl _) _) (HXC.out j hjl)
        rw [nth_eq hjl, e] at this
        unfold Addr.add
        split
        · rename_i e0; subst e0; exact this
        · simpa using this
      · cases hy
    case d3 => unfold maxLen; omega
    case d4 => omega
    case d5 => simp
    intro v9 w9 hown9 hgrow9 _
    have hb9 : Below w6.heap.size w6 w9 := ((Below.refl _ _).alloc (Nat.le_refl _) _).grown hgrow9 (by simp) (fun j hj => by simp [Value.ownBlock] at hj; omega)
    have HO9 : Hid (OwnRow 2 w9 w6.heap.size v9 (candN M n s u)) := by
      show OwnRow _ _ _ _ _
      rw [HCY.out, HM.out, Nat.add_sub_cancel]
      refine OwnRow.of_ownsRow (n := 1 + m) (by simpa using hown9) (by simp; unfold maxLen; omega) (fun x hx => ?_)
      rcases List.mem_cons.1 hx with rfl | hx
      · unfold I64; omega
      · have := HBI.out x (List.mem_of_mem_take hx)
        unfold I64; omega
    have HB9 : Hid (Below w.heap.size w w9) := HB6.out.trans (hb9.mono hw6)
    obtain ⟨a9, c9, e9⟩ := HO9.out.row.slice
    subst e9
    clear hown9 hgrow9 hb9 hms hwm
    go_wp2
    go_ret
    exact ⟨⟨_, _, _, rfl, HO9.out.mono hw6, HB9.out⟩, fun e => absurd e HCN.out⟩

end Go.Proofs.YtnjkhiheapmlmaaDoor

/- Walks: LeastLoop, of the program. -/
namespace Go.Proofs.YtnjkhiheapmlmaaDoor
open Go.RowKit

set_option maxHeartbeats 8000000 in
set_option maxRecDepth 100000 in
theorem implLeastLoop_any (v : Value) (L : List (List Int)) (w : World) (h : GridAt w v L) (hT : TabAt w) : Calls Tryd.prog 16 #[.agg #[v]] w (GaveRow w (llL L)) := by
  obtain ⟨a0, c0, rfl⟩ := h.slice
  have ha : Below w.heap.size w (w.alloc (.cells #[.slice a0 L.length c0] 26)) := (Below.refl _ _).alloc (Nat.le_refl _) _
  have hk := h.keep ha
  have HA := Lib.hid ha
  have HT := Lib.hid hT
  clear ha hT
  go_enter Tryd.func16, Tryd.ntmps16
  go_wp2_with fail
  refine (netOf_any _ _ _ hk).mono ?_
  rintro e w1 ⟨rfl, hb1⟩
  have HB1 : Hid (Below w.heap.size w w1) := HA.out.trans (hb1.mono (by simp))
  have hz : w.heap.size ≤ w1.heap.size := HB1.out.size
  have hnb := netBlk_new w1 0 (fun _ => 0)
  clear hb1 hk h HA
  by_cases hG : GraphP L
  · have hzz := hG.1
    have HLT : Hid (∀ i, rowM L i < 65536) := fun i => rowM_lt (by omega) (fun v hv => (hG.2.1 v hv).1) i
    have HE : Hid (llL L = bestTo L L.length) := by show _ = _; unfold llL; rw [if_pos hG]
    have HG := Lib.hid hG
    rw [decide_eq_true hG, netArr_yes hG]
    clear hG
    go_wp2_with (refine wpList_store_net rfl 47 (.tmp 3) (.tmp 13) rfl w1.heap.size L.length (rowM L) rfl rfl Tryd.sizeNet 0 (fun _ => 0) hnb ?_; intro w3 hp3; have hn0 := hp3.net.at.1; have HN3 := Lib.hid hp3.net; have HB3 : Hid (Below w.heap.size w w3) := (HB1.out.alloc hz _).trans (hp3.below.mono hz); clear hp3)
    clear hn0 hnb HB1
    have hw3 : w.heap.size ≤ w3.heap.size := HB3.out.size
    have HN : Hid (∀ w', Below w3.heap.size w3 w' → NetBlk 47 w' w1.heap.size L.length (rowM L)) := fun w' hb => HN3.out.keep hb
    have HTK : Hid (∀ w', Below w3.heap.size w3 w' → TabAt w') := fun w' hb => HT.out.keep (HB3.out.trans (hb.mono HB3.out.size))
    clear HN3 HT
    go_loopw [5, 19] (fun bv iv wr => ∃ s : Nat, s ≤ L.length ∧ iv = .int .i64 s ∧ OwnRow 2 wr w.heap.size bv (bestTo L s) ∧ (bestTo L s = [] → bv = .slice none 0 0) ∧ Below w3.heap.size w3 wr) (fun _ iv _ => L.length - (intOf iv).toNat)
    case atStart => exact ⟨0, Nat.zero_le _, rfl, ⟨(fun x hx => absurd hx List.not_mem_nil), Nat.zero_le _, .inl ⟨rfl, rfl⟩⟩, fun _ => rfl, Below.refl _ _⟩
    case round =>
      obtain ⟨s, hs, rfl, ho, hnil, hb⟩ := hrel
      have HO := Lib.hid ho
      have HNIL := Lib.hid hnil
      have HB := Lib.hid hb
      have HBL := Lib.hid (bestTo_len hzz.2 s)
      have hcs := (HN.out _ hb).at.2
      clear ho hnil hb
      by_cases hsl : s < L.length
      · have HST := Lib.hid (HG.out.2.1 s hsl).1
        have hrl : (nthR L s).length ≤ 16 := by have := HST.out.len (by omega); omega
        have hcs' := hcs s (by omega)
        clear hcs
        go_wp2_with fail
        refine (list_any (rowM L s) _ (HLT.out s)).mono ?_
        rintro e w4 ⟨n4, a4, c4, rfl, ho4, hb4⟩
        rw [row_listM HG.out hsl] at ho4
        have HB4 : Hid (Below w3.heap.size w3 w4) := HB.out.trans (hb4.mono HB.out.size)
        have HO4 := Lib.hid (HO.out.keep hb4)
        obtain ⟨a4', c4', e4⟩ := ho4.row.slice
        simp only [Value.slice.injEq] at e4
        obtain ⟨rfl, rfl, rfl⟩ := e4
        have hw4 : w3.heap.size ≤ w4.heap.size := HB4.out.size
        have HR4 : Hid (∀ w', Below w4.heap.size w4 w' → RowAt w' (.slice a4 (nthR L s).length c4) (nthR L s)) := fun w' hb => ho4.row.keep hb
        clear ho4 hb4 hcs' HO HB
        go_wp2_with fail
        go_loopw [5, 28] (fun bv kv wr => ∃ k : Nat, k ≤ (nthR L s).length ∧ kv = .int .i64 k ∧ OwnRow 2 wr w.heap.size bv (bestRow L s (bestTo L s) k) ∧ (bestRow L s (bestTo L s) k = [] → bv = .slice none 0 0) ∧ Below w4.heap.size w4 wr) (fun _ kv _ => (nthR L s).length - (intOf kv).toNat)
        case atStart => exact ⟨0, Nat.zero_le _, rfl, HO4.out, HNIL.out, Below.refl _ _⟩
        case round =>
          clear HO4 HNIL
          rename World => wx
          obtain ⟨k, hk, rfl, ho, hnil, hb⟩ := hrel
          have hrow := HR4.out _ hb
          have HO := Lib.hid ho
          have HNIL := Lib.hid hnil
          have HB := Lib.hid hb
          have HBL2 := Lib.hid (bestRow_len (s := s) hzz.2 HBL.out k)
          clear ho hnil hb
          by_cases hkl : k < (nthR L s).length
          · have hst := HST.out k hkl
            obtain ⟨u, hu⟩ : ∃ u : Nat, nth (nthR L s) k = (u : Int) := ⟨(nth (nthR L s) k).toNat, by have := hst.1; omega⟩
            have hun : u < L.length := by have := hst.2.1; omega
            have hadj : adjB L s u = true := by rw [← adjB_has HG.out hsl (by omega), ← hu]; exact (hasB_mem _ _).2 (nth_mem hkl)
            have hsu : s ≠ u := fun e => by rw [e, adjB_self HG.out] at hadj; cases hadj
            obtain ⟨b1, o1, c1, e1, m1, m2, hcr⟩ := hrow.pos (by omega)
            simp only [Value.slice.injEq, true_and] at e1
            obtain ⟨rfl, rfl⟩ := e1
            have hcu := hcr k hkl
            rw [hu] at hcu
            have HSY := Lib.hid (cutMs_symm HG.out hsl hun hadj)
            have HBR : Hid (bestRow L s (bestTo L s) (k + 1) = pickB (bestRow L s (bestTo L s) k) (candN (rowM L) L.length s u)) := by
              show pickB _ (candN _ _ _ (nth (nthR L s) k).toNat) = _
              rw [hu, Int.toNat_natCast]
            clear hu hadj hrow hcr hst
            go_wp2_with fail
            refine (loopBy_any w1.heap.size L.length s u (rowM L) _ (HN.out _ (HB4.out.trans (HB.out.mono hw4))) (HTK.out _ (HB4.out.trans (HB.out.mono hw4))) HLT.out hzz hsl hun hsu HSY.out).mono ?_
            rintro e w5 ⟨⟨n5, a5, c5, rfl, ho5, hb5⟩, hnil5⟩
            have HB5 : Hid (Below w4.heap.size w4 w5) := HB.out.trans (hb5.mono HB.out.size)
            have HO5 := Lib.hid (HO.out.keep hb5)
            have hwx : w4.heap.size ≤ wx.heap.size := HB.out.size
            have HC5 := Lib.hid (ho5.mono (show w.heap.size ≤ wx.heap.size by omega))
            clear ho5 hb5 HO HB hcu
            obtain ⟨Y, hY⟩ : ∃ Y, Y = candN (rowM L) L.length s u := ⟨_, rfl⟩
            obtain ⟨Z, hZ⟩ : ∃ Z, Z = bestRow L s (bestTo L s) k := ⟨_, rfl⟩
            have hY16 : Y.length ≤ 16 := by rw [hY]; exact candN_len hzz.2
            have hZ16 := HBL2.out
            rw [← hY] at HC5 hnil5
            rw [← hZ] at HO5 HNIL hZ16
            rw [← hY, ← hZ] at HBR
            clear hY hZ HSY HBL2
            by_cases hy0 : Y = []
            · have he := hnil5 hy0
              simp only [Ending.returned.injEq, Value.slice.injEq] at he
              obtain ⟨rfl, rfl, rfl⟩ := he
              have HPE : Hid (bestRow L s (bestTo L s) (k + 1) = Z) := by
                show _ = _
                rw [HBR.out]
                unfold pickB
                rw [if_neg (fun hh => hh.1 hy0)]
              have hq := neq_no
              clear hnil5 hy0
              go_wp2
              go_roundw
              case rel => exact ⟨k + 1, by omega, by go_num, by rw [HPE.out]; exact HO5.out, by rw [HPE.out]; exact HNIL.out, HB5.out⟩
              case measure => simp [intOf]; omega
            · have hyp : 0 < Y.length := List.length_pos_iff.2 hy0
              obtain ⟨gy, cy, e5, _, _, _, _⟩ := HC5.out.posB hyp
              simp only [Value.slice.injEq] at e5
              obtain ⟨rfl, rfl, rfl⟩ := e5
              have HY0 := Lib.hid hy0
              have hq := neq_yes
              clear hnil5 hy0
              by_cases hz0 : Z = []
              · have he := HNIL.out hz0
                subst he
                have HPE : Hid (bestRow L s (bestTo L s) (k + 1) = Y) := by
                  show _ = _
                  rw [HBR.out]
                  unfold pickB
                  rw [if_pos ⟨HY0.out, .inl hz0⟩]
                have hq2 := eql_yes
                clear hz0 HNIL
                go_wp2
                go_roundw
                case rel => exact ⟨k + 1, by omega, by go_num, by rw [HPE.out]; exact HC5.out, by rw [HPE.out]; exact fun e => absurd e HY0.out, HB5.out⟩
                case measure => simp [intOf]; omega
              · have hzp : 0 < Z.length := List.length_pos_iff.2 hz0
                obtain ⟨gz, cz, e6, _, _, _, _⟩ := HO5.out.posB hzp
                subst e6
                have HZ0 := Lib.hid hz0
                have hq2 := eql_no
                clear hz0
                by_cases hless : Y.length < Z.length
                · have HPE : Hid (bestRow L s (bestTo L s) (k + 1) = Y) := by
                    show _ = _
                    rw [HBR.out]
                    unfold pickB
                    rw [if_pos ⟨HY0.out, .inr hless⟩]
                  have hdl : decide ((Y.length : Int) < (Z.length : Int)) = true := by rw [decide_eq_true_iff]; omega
                  go_wp2
                  go_roundw
                  case rel => exact ⟨k + 1, by omega, by go_num, by rw [HPE.out]; exact HC5.out, by rw [HPE.out]; exact fun e => absurd e HY0.out, HB5.out⟩
                  case measure => simp [intOf]; omega
                · have HPE : Hid (bestRow L s (bestTo L s) (k + 1) = Z) := by
                    show _ = _
                    rw [HBR.out]
                    unfold pickB
                    rw [if_neg (fun hh => by rcases hh.2 with h2 | h2; exact HZ0.out h2; exact hless h2)]
                  have hdl : decide ((Y.length : Int) < (Z.length : Int)) = false := by rw [decide_eq_false_iff_not]; omega
                  go_wp2
                  go_roundw
                  case rel => exact ⟨k + 1, by omega, by go_num, by rw [HPE.out]; exact HO5.out, by rw [HPE.out]; exact fun e => absurd e HZ0.out, HB5.out⟩
                  case measure => simp [intOf]; omega
          · obtain rfl : k = (nthR L s).length := by omega
            clear hrow
            go_wp2
            go_roundw
            case rel => exact ⟨s + 1, by omega, by go_num, HO.out, HNIL.out, HB4.out.trans (HB.out.mono hw4)⟩
            case measure => simp [intOf]; omega
      · obtain rfl : s = L.length := by omega
        obtain ⟨ab, cb, eb⟩ := HO.out.row.slice
        subst eb
        clear hcs
        go_wp2
        go_ret
        rw [HE.out]
        exact ⟨_, _, _, rfl, HO.out, HB3.out.trans (HB.out.mono HB3.out.size)⟩
  · have HE : Hid (llL L = []) := by show _ = _; unfold llL; rw [if_neg hG]
    rw [decide_eq_false hG, netArr_no hG]
    clear hG
    go_wp2_with (refine wpList_store_net rfl 47 (.tmp 3) (.tmp 13) rfl w1.heap.size 0 (fun _ => 0) rfl rfl Tryd.sizeNet 0 (fun _ => 0) hnb ?_; intro w3 hp; have HB3 : Hid (Below w.heap.size w w3) := (HB1.out.alloc hz _).trans (hp.below.mono hz); clear hp)
    go_ret
    exact ⟨0, none, 0, rfl, by rw [HE.out]; exact ⟨by simp, Nat.zero_le _, .inl ⟨rfl, rfl⟩⟩, HB3.out⟩

end Go.Proofs.YtnjkhiheapmlmaaDoor

/- Plain facts: closed walks of odd length. -/
namespace Go.Proofs.YtnjkhiheapmlmaaDoor

section
variable {A : Nat → Nat → Bool} {S : Nat → Bool}
theorem wk_fun {v : Nat} : ∀ {k u : Nat}, Wk A S v k u → ∃ f : Nat → Nat, f 0 = v ∧ f k = u ∧ (∀ i, i ≤ k → S (f i) = true) ∧ ∀ i, i < k → A (f i) (f (i + 1)) = true := by
  intro k
  induction k with
  | zero => intro u h; exact ⟨fun _ => v, rfl, h.1.symm, fun _ _ => h.2, fun i hi => absurd hi (by omega)⟩
  | succ k ih =>
    rintro u ⟨hs, x, hx, ha⟩
    obtain ⟨f, f0, fk, fS, fA⟩ := ih hx
    refine ⟨fun i => if i = k + 1 then u else f i, ?_, ?_, fun i hi => ?_, fun i hi => ?_⟩
    · simp only [show (0 : Nat) ≠ k + 1 from by omega, if_false]; exact f0
    · simp
    · by_cases e : i = k + 1
      · simp only [e, if_true]; exact hs
      · simp only [e, if_false]; exact fS i (by omega)
    · simp only [show i ≠ k + 1 from by omega, if_false]
      by_cases e : i = k
      · subst e; simp only [if_true]; rw [fk]; exact ha
      · simp only [show i + 1 ≠ k + 1 from by omega, if_false]; exact fA i (by omega)
theorem wk_sub {f : Nat → Nat} {k : Nat} (fS : ∀ i, i ≤ k → S (f i) = true) (fA : ∀ i, i < k → A (f i) (f (i + 1)) = true) {i : Nat} : ∀ j, i + j ≤ k → Wk A S (f i) j (f (i + j)) := by
  intro j
  induction j with
  | zero => intro h; exact ⟨rfl, fS i (by omega)⟩
  | succ j ih => intro h; exact ⟨fS _ h, f (i + j), ih (by omega), fA (i + j) (by omega)⟩
/-- A least odd closed walk repeats no vertex. -/
theorem odd_short {n v k : Nat} (hS : ∀ u, S u = true → u < n) (h : Wk A S v k v) (hk : k % 2 = 1) (hmin : ∀ j x, j < k → j % 2 = 1 → ¬ Wk A S x j x) : k ≤ n := by
  obtain ⟨f, f0, fk, fS, fA⟩ := wk_fun h
  have hnd : ((List.range k).map f).Nodup := by
    rw [List.nodup_iff_pairwise_ne, List.pairwise_map]
    refine List.Pairwise.imp_of_mem ?_ (List.nodup_iff_pairwise_ne.1 List.nodup_range)
    intro a b ha hb hne e
    rw [List.mem_range] at ha hb
    have key : ∀ i j, i < j → j < k → f i = f j → False := by
      intro i j hij hjk e
      by_cases hp : (j - i) % 2 = 1
      · have h1 := wk_sub fS fA (i := i) (j - i) (by omega)
        rw [show i + (j - i) = j from by omega, ← e] at h1
        exact hmin _ _ (by omega) hp h1
      · have h1 := wk_sub fS fA (i := 0) i (by omega)
        have h2 := wk_sub fS fA (i := j) (k - j) (by omega)
        rw [f0, Nat.zero_add] at h1
        rw [show j + (k - j) = k from by omega, fk, ← e] at h2
        exact hmin (i + (k - j)) v (by omega) (by omega) (wk_trans h1 h2)
    rcases Nat.lt_or_gt_of_ne hne with h1 | h1
    · exact key a b h1 hb e
    · exact key b a h1 ha e.symm
  have := hnd.length_le_of_subset (l₂ := List.range n) (fun x hx => by
    rw [List.mem_map] at hx
    obtain ⟨a, ha, rfl⟩ := hx
    rw [List.mem_range] at ha ⊢
    exact hS _ (fS a (by omega)))
  simpa using this
end

/-- The vertices at the end of a walk of just k edges, as a mask. -/
def exM (M : Nat → Nat) (v : Nat) : Nat → Nat
  | 0 => 2 ^ v
  | k + 1 => arTo M (listM (exM M v k)) (listM (exM M v k)).length
theorem exM_lt {M : Nat → Nat} (hM : ∀ i, M i < 65536) {v : Nat} (hv : v < 16) : ∀ k, exM M v k < 65536 := by
  intro k
  cases k with
  | zero => exact pow_lt16 hv
  | succ k => exact arTo_lt hM _ _
theorem exM_bit {M : Nat → Nat} {n v : Nat} (hn : n ≤ 16) (hv : v < n) (hMn : ∀ a b, (M a).testBit b = true → b < n) : ∀ k u, (exM M v k).testBit u = true ↔ Wk (nearM M) (allS n) v k u := by
  intro k
  induction k with
  | zero =>
    intro u
    show (2 ^ v).testBit u = true ↔ _
    rw [Nat.testBit_two_pow, decide_eq_true_iff]
    exact ⟨fun e => ⟨e.symm, (allS_iff _ _).2 hv⟩, fun e => e.1.symm⟩
  | succ k ih =>
    intro u
    show (arTo _ _ _).testBit u = true ↔ _
    rw [arTo_bit]
    constructor
    · rintro ⟨j, hj, hb⟩
      obtain ⟨x, _, hx, e⟩ := (listM_mem _ _).1 (nth_mem hj)
      rw [← e, Int.toNat_natCast] at hb
      exact ⟨(allS_iff _ _).2 (hMn _ _ hb), x, (ih x).1 hx, hb⟩
    · rintro ⟨_, x, hx, ha⟩
      have hx16 : x < 16 := by have := (allS_iff _ _).1 (wk_in hx); omega
      obtain ⟨j, hj, e⟩ := List.getElem_of_mem ((listM_mem _ _).2 ⟨x, hx16, (ih x).2 hx, rfl⟩)
      exact ⟨j, hj, by rw [nth_eq hj, e, Int.toNat_natCast]; exact ha⟩
section
variable {M : Nat → Nat} {n v : Nat}
/-- The way down the rings of a closed walk. -/
theorem exD_step (hn : n ≤ 16) (hv : v < n) (hM : ∀ i, M i < 65536) (hMn : ∀ a b, (M a).testBit b = true → b < n) (hA : ∀ a b, nearM M a b = nearM M b a) {k : Nat} (h : Wk (nearM M) (allS n) v k v) : ∀ i, i ≤ k → Wk (nearM M) (allS n) v (k - i) (curD M (exM M v) k v i) ∧ (i < k → M (curD M (exM M v) k v i) &&& exM M v (k - 1 - i) ≠ 0) := by
  have hb := exM_bit (M := M) hn hv hMn
  have hne : ∀ j x, Wk (nearM M) (allS n) v (j + 1) x → M x &&& exM M v j ≠ 0 := by
    rintro j x ⟨_, y, hy, hyx⟩ e
    have h1 : (M x &&& exM M v j).testBit y = true := by
      rw [Nat.testBit_and, (hb j y).2 hy, Bool.and_true]
      rw [hA] at hyx
      exact hyx
    rw [e] at h1
    simp at h1
  intro i
  induction i with
  | zero =>
    intro _
    refine ⟨h, fun h0 => hne _ _ ?_⟩
    rw [show k - 1 - 0 + 1 = k from by omega]
    exact h
  | succ i ih =>
    intro hi
    obtain ⟨h1, h2⟩ := ih (by omega)
    have h3 := h2 (by omega)
    have hlt : M (curD M (exM M v) k v i) &&& exM M v (k - 1 - i) < 65536 := Nat.lt_of_le_of_lt Nat.and_le_left (hM _)
    obtain ⟨_, h5, _⟩ := leastM_spec h3 hlt
    rw [Nat.testBit_and, Bool.and_eq_true] at h5
    have h6 : Wk (nearM M) (allS n) v (k - 1 - i) (curD M (exM M v) k v (i + 1)) := (hb _ _).1 h5.2
    refine ⟨by rw [show k - (i + 1) = k - 1 - i from by omega]; exact h6, fun h7 => hne _ _ ?_⟩
    rw [show k - 1 - (i + 1) + 1 = k - 1 - i from by omega]
    exact h6
end
/-- What roundFrom answers. -/
def rdN (M : Nat → Nat) (v k : Nat) : List Int := if (exM M v k).testBit v = true then (wayD M (exM M v) k v k).take k else []
theorem rdN_no {M : Nat → Nat} {v k : Nat} (h : (exM M v k).testBit v = false) : rdN M v k = [] := by unfold rdN; rw [if_neg (by rw [h]; exact Bool.false_ne_true)]
theorem rdN_yes {M : Nat → Nat} {v k : Nat} (h : (exM M v k).testBit v = true) : rdN M v k = (wayD M (exM M v) k v k).take k := by unfold rdN; rw [if_pos h]
theorem rdN_len {M : Nat → Nat} {v k : Nat} (h : (exM M v k).testBit v = true) : (rdN M v k).length = k := by rw [rdN_yes h, List.length_take, wayD_len]; omega

/-- A closed walk of just k edges at v. -/
def Round (L : List (List Int)) (v k : Nat) : Prop := Wk (nearB L) (allS L.length) v k v
/-- X is the least odd loop, nothing where there is none. -/
def OddP (L : List (List Int)) (X : List Int) : Prop :=
  (∃ k v, k % 2 = 1 ∧ v < L.length ∧ Round L v k ∧ (∀ j x, j < k → j % 2 = 1 → ¬ Round L x j) ∧ (∀ x, x < v → ¬ Round L x k) ∧ X = rdN (rowM L) v k) ∨ ((∀ j x, j % 2 = 1 → ¬ Round L x j) ∧ X = [])
theorem oddP_one {L : List (List Int)} {X Y : List Int} (h : OddP L X) (h' : OddP L Y) : X = Y := by
  rcases h with ⟨k, v, k1, vn, hr, hm, hv, rfl⟩ | ⟨hn, rfl⟩
  · rcases h' with ⟨k', v', k1', vn', hr', hm', hv', rfl⟩ | ⟨hn', rfl⟩
    · have ek : k = k' := by
        rcases Nat.lt_trichotomy k k' with h | h | h
        · exact absurd hr (hm' _ _ h k1)
        · exact h
        · exact absurd hr' (hm _ _ h k1')
      subst ek
      have ev : v = v' := by
        rcases Nat.lt_trichotomy v v' with h | h | h
        · exact absurd hr (hv' _ h)
        · exact h
        · exact absurd hr' (hv _ h)
      subst ev
      rfl
    · exact absurd hr (hn' _ _ k1)
  · rcases h' with ⟨k', v', k1', vn', hr', hm', hv', rfl⟩ | ⟨hn', rfl⟩
    · exact absurd hr' (hn _ _ k1')
    · rfl
open Classical in
/-- What OddLoop answers. -/
noncomputable def olL (L : List (List Int)) : List Int := if h : GraphP L ∧ ∃ X, OddP L X then Classical.choose h.2 else []
open Classical in
theorem olL_eq {L : List (List Int)} (hG : GraphP L) {X : List Int} (h : OddP L X) : olL L = X := by
  have hh : GraphP L ∧ ∃ X, OddP L X := ⟨hG, X, h⟩
  unfold olL
  rw [dif_pos hh]
  exact oddP_one (Classical.choose_spec hh.2) h
open Classical in
theorem olL_no {L : List (List Int)} (hG : ¬ GraphP L) : olL L = [] := by unfold olL; rw [dif_neg (fun h => hG h.1)]
theorem row_bit {L : List (List Int)} (hG : GraphP L) {a b : Nat} (h : (rowM L a).testBit b = true) : b < L.length := (adjB_range hG h).2
theorem round_bit {L : List (List Int)} (hG : GraphP L) {v k : Nat} (hv : v < L.length) : (exM (rowM L) v k).testBit v = true ↔ Round L v k := by
  rw [exM_bit hG.1.2 hv (fun a b h => row_bit hG h), nearM_eq hG]
  exact Iff.rfl
theorem round_in {L : List (List Int)} {v k : Nat} (h : Round L v k) : v < L.length := (allS_iff _ _).1 (wk_in h)
theorem round_one {L : List (List Int)} (hG : GraphP L) (v : Nat) : ¬ Round L v 1 := by
  rintro ⟨_, x, ⟨rfl, _⟩, ha⟩
  have : nearB L x x = false := by rw [← nearM_eq hG]; exact adjB_self hG x
  rw [this] at ha
  cases ha
theorem round_short {L : List (List Int)} {v k : Nat} (h : Round L v k) (hk : k % 2 = 1) (hmin : ∀ j x, j < k → j % 2 = 1 → ¬ Round L x j) : k ≤ L.length :=
  odd_short (fun _ hu => (allS_iff _ _).1 hu) h hk hmin
/-- Where no odd size up to n has a closed walk, none has. -/
theorem round_none {L : List (List Int)} (h : ∀ j x, j ≤ L.length → j % 2 = 1 → ¬ Round L x j) : ∀ j x, j % 2 = 1 → ¬ Round L x j := by
  intro j
  induction j using Nat.strongRecOn with
  | ind j ih =>
    intro x hj hr
    have := round_short hr hj (fun i y hi hi2 => ih i hi y hi2)
    exact h j x this hj hr

end Go.Proofs.YtnjkhiheapmlmaaDoor
