/- Walks: the model's cutting of a text at a mark. -/
import Derived.Test.YtojbaepcflkgeaaDoorQST1

namespace Go.Proofs.YtojbaepcflkgeaaDoor
open Go.RowKit

theorem bsL_cut (l : List UInt8) (a b : Nat) : (bsL l).extract a b = bsL ((l.drop a).take (b - a)) := ByteArray.extract_mk l a b
/-- A text cut at a mark. -/
def splitL (by' : UInt8) : List UInt8 → List (List UInt8)
  | [] => [[]]
  | c :: t => if c = by' then [] :: splitL by' t else match splitL by' t with
    | [] => [[c]]
    | h :: r => (c :: h) :: r
theorem splitL_mark (m : UInt8) : ∀ (p : List UInt8) (t : List UInt8), m ∉ p → splitL m (p ++ m :: t) = p :: splitL m t := by
  intro p
  induction p with
  | nil => intro t _; simp [splitL]
  | cons c p ih =>
    intro t h
    rw [List.mem_cons, not_or] at h
    rw [List.cons_append, splitL, if_neg (fun e => h.1 e.symm), ih t h.2]
theorem splitL_one (m : UInt8) : ∀ (p : List UInt8), m ∉ p → splitL m p = [p] := by
  intro p
  induction p with
  | nil => intro _; rfl
  | cons c p ih =>
    intro h
    rw [List.mem_cons, not_or] at h
    rw [splitL, if_neg (fun e => h.1 e.symm), ih h.2]
theorem splitL_len (m : UInt8) : ∀ (p : List UInt8), (splitL m p).length ≤ p.length + 1 ∧ 0 < (splitL m p).length := by
  intro p
  induction p with
  | nil => exact ⟨by simp [splitL], by simp [splitL]⟩
  | cons c p ih =>
    rw [splitL]
    split
    · exact ⟨by simp; omega, by simp⟩
    · split
      · exact ⟨by simp, by simp⟩
      · rename_i h r e
        rw [e] at ih
        exact ⟨by simp at ih ⊢; omega, by simp⟩
/-- In the midst of cutting: D is done, from f on it goes, as far as i there is no mark. -/
structure SplitP (m : UInt8) (s : List UInt8) (D : List (List UInt8)) (f i : Nat) : Prop where
  fi : f ≤ i
  il : i ≤ s.length
  eq : D ++ splitL m (s.drop f) = splitL m s
  no : m ∉ (s.drop f).take (i - f)
theorem SplitP.start (m : UInt8) (s : List UInt8) : SplitP m s [] 0 0 := ⟨Nat.le_refl _, Nat.zero_le _, by simp, by simp⟩
theorem drop_parts {s : List UInt8} {f i : Nat} (h : f ≤ i) (hi : i < s.length) : s.drop f = (s.drop f).take (i - f) ++ s[i] :: s.drop (i + 1) := by
  conv => lhs; rw [← List.take_append_drop (i - f) (s.drop f)]
  rw [List.drop_drop, show f + (i - f) = i by omega, List.drop_eq_getElem_cons hi]
theorem SplitP.skip {m : UInt8} {s : List UInt8} {D : List (List UInt8)} {f i : Nat} (h : SplitP m s D f i) (hi : i < s.length) (hne : s[i] ≠ m) : SplitP m s D f (i + 1) := by
  refine ⟨by have := h.fi; omega, hi, h.eq, ?_⟩
  have hfi := h.fi
  have e : (s.drop f).take (i + 1 - f) = (s.drop f).take (i - f) ++ [s[i]] := by
    rw [show i + 1 - f = (i - f) + 1 by omega, List.take_succ_eq_append_getElem (by rw [List.length_drop]; omega)]
    congr 2
    rw [List.getElem_drop]
    congr 1
    omega
  rw [e, List.mem_append, not_or]
  exact ⟨h.no, by simpa using fun e => hne e.symm⟩
theorem SplitP.cut {m : UInt8} {s : List UInt8} {D : List (List UInt8)} {f i : Nat} (h : SplitP m s D f i) (hi : i < s.length) (he : s[i] = m) : SplitP m s (D ++ [(s.drop f).take (i - f)]) (i + 1) (i + 1) := by
  refine ⟨Nat.le_refl _, hi, ?_, by simp⟩
  rw [← h.eq, List.append_assoc]
  congr 1
  rw [drop_parts h.fi hi, he, splitL_mark _ _ _ h.no]
  have e : (((s.drop f).take (i - f) ++ m :: s.drop (i + 1)).take (i - f)) = (s.drop f).take (i - f) := by
    rw [List.take_append_of_le_length (by rw [List.length_take, List.length_drop]; have := h.fi; omega), List.take_take, Nat.min_self]
  rw [e]
  rfl
theorem SplitP.last {m : UInt8} {s : List UInt8} {D : List (List UInt8)} {f : Nat} (h : SplitP m s D f s.length) : D ++ [(s.drop f).take (s.length - f)] = splitL m s := by
  have e : (s.drop f).take (s.length - f) = s.drop f := List.take_of_length_le (by rw [List.length_drop]; exact Nat.le_refl _)
  have hn := h.no
  rw [e] at hn ⊢
  rw [← h.eq, splitL_one _ _ hn]
theorem SplitP.len {m : UInt8} {s : List UInt8} {D : List (List UInt8)} {f i : Nat} (h : SplitP m s D f i) : D.length ≤ s.length := by
  have a := (splitL_len m s).1
  have b := (splitL_len m (s.drop f)).2
  rw [← h.eq, List.length_append] at a
  omega

theorem idx_bytes (s : List UInt8) (i : Nat) (h : i < s.length) (w : World) : (Instr.index 9 (.string (bsL s)) (.int .i64 (i : Int))).run Tryd.prog w = .ok (.int .u8 (s[i].toNat : Int)) w := by
  rw [run_index_string w 9 (bsL s) .i64 (i : Int) Tryd.underlying9, dif_pos ⟨by omega, by rw [bsL_size]; omega⟩]
  rfl

set_option maxHeartbeats 2000000 in
set_option maxRecDepth 100000 in
theorem l1Split_any (s : List UInt8) (m : UInt8) (w : World) (hs : s.length ≤ 1048576) : Calls Tryd.prog 16 #[.string (bsL s), .int .u8 (m.toNat : Int)] w fun e w' => ∃ n a c, e = .returned (.slice a n c) ∧ OwnS w' w.heap.size (.slice a n c) (splitL m s) ∧ Below w.heap.size w w' := by
  obtain ⟨i0, hi, hz0, hz1, hz2⟩ := info_parts Tryd.infoS
  have hsz := bsL_size s
  go_enter Tryd.func16, Tryd.ntmps16
  go_wp2_with fail
  go_loopw [5, 6, 7] (fun ov fv iv wr => ∃ (i : Nat), iv = .int .i64 i ∧ ((∃ D f, fv = .int .i64 ((f : Nat) : Int) ∧ OwnS wr w.heap.size ov D ∧ SplitP m s D f i) ∨ (i = s.length + 1 ∧ OwnS wr w.heap.size ov (splitL m s))) ∧ i ≤ s.length + 1 ∧ Below w.heap.size w wr) (fun _ _ iv _ => s.length + 1 - (intOf iv).toNat)
  case atStart => exact ⟨0, rfl, .inl ⟨[], 0, rfl, OwnS.empty w _ (Nat.le_refl _), SplitP.start m s⟩, by omega, (Below.refl _ _).alloc (Nat.le_refl _) _⟩
  case round =>
    obtain ⟨i, rfl, hcase, hil, hb⟩ := hrel
    have HB := Lib.hid hb
    have hzr : w.heap.size ≤ wr.heap.size := hb.size
    clear hb
    rcases hcase with ⟨D, f, rfl, hos, hp⟩ | ⟨rfl, hos⟩
    · obtain ⟨ao, co, es⟩ := hos.slice
      subst es
      have hdl := hp.len
      have hfi := hp.fi
      have hil2 := hp.il
      have HOS := Lib.hid hos
      have HP := Lib.hid hp
      have hfI : (f : Int) ≤ (i : Int) := by omega
      have hiI : (i : Int) ≤ (s.length : Int) := by omega
      clear hos hp
      by_cases hlt : i < s.length
      · have hltI : (i : Int) < (s.length : Int) := by omega
        have q1 : ((i : Int) == (s.length : Int)) = false := by rw [beq_eq_false_iff_ne]; omega
        have hix : ∀ w, (Instr.index 9 (.string (bsL s)) (.int .i64 (i : Int))).run Tryd.prog w = .ok (.int .u8 (s[i].toNat : Int)) w := fun w => idx_bytes s i hlt w
        obtain ⟨y, hy⟩ : ∃ y, s[i] = y := ⟨_, rfl⟩
        have HY := Lib.hid hy
        rw [hy] at hix
        clear hy
        by_cases he : y = m
        · subst he
          have q2 : ((y.toNat : Int) == (y.toNat : Int)) = true := by simp
          have HC := Lib.hid (HP.out.cut hlt HY.out)
          have HLIT := Lib.hid (str_lit wr ((s.drop f).take (i - f)) 9)
          have hex : (bsL s).extract f i = bsL ((s.drop f).take (i - f)) := bsL_cut s f i
          go_wp2_with (at_builtin; refine wpList_append_own _ rfl (.tmp 26) (.tmp 31) 33 rfl w.heap.size 9 i0 (.string ⟨#[]⟩) 1 16 Tryd.underlying33 hi hz0 hz1 hz2 rfl (by decide) _ _ _ rfl (HOS.out.alloc _) ⟨wr.heap.size, 0, none⟩ 1 1 [strV ((s.drop f).take (i - f))] rfl rfl HLIT.out (str_one _) (by unfold maxLen; omega) (by omega) (by simp; omega) ?_; intro v6 w6 hown6 hgrow6 _; have HO6 := Lib.hid (OwnS.snoc hown6); have HB6 : Hid (Below w.heap.size w w6) := (HB.out.alloc hzr _).grown hgrow6 (by simp; omega) (fun j hj => (HOS.out.lt j hj).1); clear hown6 hgrow6)
          go_roundw
          case rel => exact ⟨i + 1, by go_num, .inl ⟨_, i + 1, by go_num, HO6.out, HC.out⟩, by omega, HB6.out⟩
          case measure => simp [intOf]; omega
        · have q2 : ((y.toNat : Int) == (m.toNat : Int)) = false := by rw [beq_eq_false_iff_ne]; exact fun e => he (UInt8.toNat_inj.1 (by omega))
          have HC := Lib.hid (HP.out.skip hlt (by rw [HY.out]; exact he))
          go_wp2
          go_roundw
          case rel => exact ⟨i + 1, by go_num, .inl ⟨_, f, rfl, HOS.out, HC.out⟩, by omega, HB.out⟩
          case measure => simp [intOf]; omega
      · obtain rfl : i = s.length := by omega
        have q1 : ((s.length : Int) == (s.length : Int)) = true := by simp
        have HC := Lib.hid (HP.out.last)
        have HLIT := Lib.hid (str_lit wr ((s.drop f).take (s.length - f)) 9)
        have hex : (bsL s).extract f s.length = bsL ((s.drop f).take (s.length - f)) := bsL_cut s f s.length
        go_wp2_with (at_builtin; refine wpList_append_own _ rfl (.tmp 26) (.tmp 31) 33 rfl w.heap.size 9 i0 (.string ⟨#[]⟩) 1 16 Tryd.underlying33 hi hz0 hz1 hz2 rfl (by decide) _ _ _ rfl (HOS.out.alloc _) ⟨wr.heap.size, 0, none⟩ 1 1 [strV ((s.drop f).take (s.length - f))] rfl rfl HLIT.out (str_one _) (by unfold maxLen; omega) (by omega) (by simp; omega) ?_; intro v6 w6 hown6 hgrow6 _; have HO6 := Lib.hid (OwnS.snoc hown6); have HB6 : Hid (Below w.heap.size w w6) := (HB.out.alloc hzr _).grown hgrow6 (by simp; omega) (fun j hj => (HOS.out.lt j hj).1); clear hown6 hgrow6)
        go_roundw
        case rel => exact ⟨s.length + 1, by go_num, .inr ⟨rfl, by rw [← HC.out]; exact HO6.out⟩, by omega, HB6.out⟩
        case measure => simp [intOf]
    · obtain ⟨ao, co, es⟩ := hos.slice
      subst es
      have HOS := Lib.hid hos
      have hno : ¬ ((s.length + 1 : Nat) : Int) ≤ (s.length : Int) := by omega
      clear hos
      go_wp2
      go_ret
      exact ⟨_, _, _, rfl, HOS.out, HB.out⟩

end Go.Proofs.YtojbaepcflkgeaaDoor
