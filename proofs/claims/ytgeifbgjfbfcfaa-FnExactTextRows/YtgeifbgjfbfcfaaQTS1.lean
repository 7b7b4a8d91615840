/- The texts TS1, TR1, joined. -/
import Derived.Test.YtgeifbgjfbfcfaaST1
import Derived.Test.YtgeifbgjfbfcfaaQRT1
import Derived.Test.YtgeifbgjfbfcfaaQM4

/- Walks: the model's cutting of a text at a mark. -/
namespace Go.Proofs.Ytgeifbgjfbfcfaa
open Go.RowKit

theorem bsL_cut (l : List UInt8) (a b : Nat) : (bsL l).extract a b = bsL ((l.drop a).take (b - a)) := ByteArray.extract_mk l a b
/-- A text cut at a mark. -/
def splitL (by' : UInt8) : List UInt8 → List (List UInt8)
  | [] => [[]]
  | c :: t => if c = by' then [] :: splitL by' t else match splitL by' t with
    | [] => [[c]]
    | h :: r => (c :: h) :: r
theorem splitL_mark (m : UInt8) : ∀ (p : List UInt8) (t : List UInt8), m ∉ p → splitL m (p ++ m :: t) = p :: splitL m t := by
  intro p
  induction p with
  | nil => intro t _; simp [splitL]
  | cons c p ih =>
    intro t h
    rw [List.mem_cons, not_or] at h
    rw [List.cons_append, splitL, if_neg (fun e => h.1 e.symm), ih t h.2]
theorem splitL_one (m : UInt8) : ∀ (p : List UInt8), m ∉ p → splitL m p = [p] := by
  intro p
  induction p with
  | nil => intro _; rfl
  | cons c p ih =>
    intro h
    rw [List.mem_cons, not_or] at h
    rw [splitL, if_neg (fun e => h.1 e.symm), ih h.2]
theorem splitL_len (m : UInt8) : ∀ (p : List UInt8), (splitL m p).length ≤ p.length + 1 ∧ 0 < (splitL m p).length := by
  intro p
  induction p with
  | nil => exact ⟨by simp [splitL], by simp [splitL]⟩
  | cons c p ih =>
    rw [splitL]
    split
    · exact ⟨by simp; omega, by simp⟩
    · split
      · exact ⟨by simp, by simp⟩
      · rename_i h r e
        rw [e] at ih
        exact ⟨by simp at ih ⊢; omega, by simp⟩
/-- In the midst of cutting: D is done, from f on it goes, as far as i there is no mark. -/
structure SplitP (m : UInt8) (s : List UInt8) (D : List (List UInt8)) (f i : Nat) : Prop where
  fi : f ≤ i
  il : i ≤ s.length
  eq : D ++ splitL m (s.drop f) = splitL m s
  no : m ∉ (s.drop f).take (i - f)
theorem SplitP.start (m : UInt8) (s : List UInt8) : SplitP m s [] 0 0 := ⟨Nat.le_refl _, Nat.zero_le _, by simp, by simp⟩
theorem drop_parts {s : List UInt8} {f i : Nat} (h : f ≤ i) (hi : i < s.length) : s.drop f = (s.drop f).take (i - f) ++ s[i] :: s.drop (i + 1) := by
  conv => lhs; rw [← List.take_append_drop (i - f) (s.drop f)]
  rw [List.drop_drop, show f + (i - f) = i by omega, List.drop_eq_getElem_cons hi]
theorem SplitP.skip {m : UInt8} {s : List UInt8} {D : List (List UInt8)} {f i : Nat} (h : SplitP m s D f i) (hi : i < s.length) (hne : s[i] ≠ m) : SplitP m s D f (i + 1) := by
  refine ⟨by have := h.fi; omega, hi, h.eq, ?_⟩
  have hfi := h.fi
  have e : (s.drop f).take (i + 1 - f) = (s.drop f).take (i - f) ++ [s[i]] := by
    rw [show i + 1 - f = (i - f) + 1 by omega, List.take_succ_eq_append_getElem (by rw [List.length_drop]; omega)]
    congr 2
    rw [List.getElem_drop]
    congr 1
    omega
  rw [e, List.mem_append, not_or]
  exact ⟨h.no, by simpa using fun e => hne e.symm⟩
theorem SplitP.cut {m : UInt8} {s : List UInt8} {D : List (List UInt8)} {f i : Nat} (h : SplitP m s D f i) (hi : i < s.length) (he : s[i] = m) : SplitP m s (D ++ [(s.drop f).take (i - f)]) (i + 1) (i + 1) := by
  refine ⟨Nat.le_refl _, hi, ?_, by simp⟩
  rw [← h.eq, List.append_assoc]
  congr 1
  rw [drop_parts h.fi hi, he, splitL_mark _ _ _ h.no]
  have e : (((s.drop f).take (i - f) ++ m :: s.drop (i + 1)).take (i - f)) = (s.drop f).take (i - f) := by
    rw [List.take_append_of_le_length (by rw [List.length_take, List.length_drop]; have := h.fi; omega), List.take_take, Nat.min_self]
  rw [e]
  rfl
theorem SplitP.last {m : UInt8} {s : List UInt8} {D : List (List UInt8)} {f : Nat} (h : SplitP m s D f s.length) : D ++ [(s.drop f).take (s.length - f)] = splitL m s := by
  have e : (s.drop f).take (s.length - f) = s.drop f := List.take_of_length_le (by rw [List.length_drop]; exact Nat.le_refl _)
  have hn := h.no
  rw [e] at hn ⊢
  rw [← h.eq, splitL_one _ _ hn]
theorem SplitP.len {m : UInt8} {s : List UInt8} {D : List (List UInt8)} {f i : Nat} (h : SplitP m s D f i) : D.length ≤ s.length := by
  have a := (splitL_len m s).1
  have b := (splitL_len m (s.drop f)).2
  rw [← h.eq, List.length_append] at a
  omega

theorem idx_bytes (s : List UInt8) (i : Nat) (h : i < s.length) (w : World) : (Instr.index 9 (.string (bsL s)) (.int .i64 (i : Int))).run Try.prog w = .ok (.int .u8 (s[i].toNat : Int)) w := by
  rw [run_index_string w 9 (bsL s) .i64 (i : Int) Try.underlying9, dif_pos ⟨by omega, by rw [bsL_size]; omega⟩]
  rfl

set_option maxHeartbeats 2000000 in
set_option maxRecDepth 100000 in
theorem l1Split_any (s : List UInt8) (m : UInt8) (w : World) (hs : s.length ≤ 1048576) : Calls Try.prog 63 #[.string (bsL s), .int .u8 (m.toNat : Int)] w fun e w' => ∃ n a c, e = .returned (.slice a n c) ∧ OwnS w' w.heap.size (.slice a n c) (splitL m s) ∧ Below w.heap.size w w' := by
  obtain ⟨i0, hi, hz0, hz1, hz2⟩ := info_parts Try.infoS
  have hsz := bsL_size s
  go_enter Try.func63, Try.ntmps63
  go_wp2_with fail
  go_loopw [5, 6, 7] (fun ov fv iv wr => ∃ (i : Nat), iv = .int .i64 i ∧ ((∃ D f, fv = .int .i64 ((f : Nat) : Int) ∧ OwnS wr w.heap.size ov D ∧ SplitP m s D f i) ∨ (i = s.length + 1 ∧ OwnS wr w.heap.size ov (splitL m s))) ∧ i ≤ s.length + 1 ∧ Below w.heap.size w wr) (fun _ _ iv _ => s.length + 1 - (intOf iv).toNat)
  case atStart => exact ⟨0, rfl, .inl ⟨[], 0, rfl, OwnS.empty w _ (Nat.le_refl _), SplitP.start m s⟩, by omega, (Below.refl _ _).alloc (Nat.le_refl _) _⟩
  case round =>
    obtain ⟨i, rfl, hcase, hil, hb⟩ := hrel
    have HB := Lib.hid hb
    have hzr : w.heap.size ≤ wr.heap.size := hb.size
    clear hb
    rcases hcase with ⟨D, f, rfl, hos, hp⟩ | ⟨rfl, hos⟩
    · obtain ⟨ao, co, es⟩ := hos.slice
      subst es
      have hdl := hp.len
      have hfi := hp.fi
      have hil2 := hp.il
      have HOS := Lib.hid hos
      have HP := Lib.hid hp
      have hfI : (f : Int) ≤ (i : Int) := by omega
      have hiI : (i : Int) ≤ (s.length : Int) := by omega
      clear hos hp
      by_cases hlt : i < s.length
      · have hltI : (i : Int) < (s.length : Int) := by omega
        have q1 : ((i : Int) == (s.length : Int)) = false := by rw [beq_eq_false_iff_ne]; omega
        have hix : ∀ w, (Instr.index 9 (.string (bsL s)) (.int .i64 (i : Int))).run Try.prog w = .ok (.int .u8 (s[i].toNat : Int)) w := fun w => idx_bytes s i hlt w
        obtain ⟨y, hy⟩ : ∃ y, s[i] = y := ⟨_, rfl⟩
        have HY := Lib.hid hy
        rw [hy] at hix
        clear hy
        by_cases he : y = m
        · subst he
          have q2 : ((y.toNat : Int) == (y.toNat : Int)) = true := by simp
          have HC := Lib.hid (HP.out.cut hlt HY.out)
          have HLIT := Lib.hid (str_lit wr ((s.drop f).take (i - f)) 9)
          have hex : (bsL s).extract f i = bsL ((s.drop f).take (i - f)) := bsL_cut s f i
          go_wp2_with (at_builtin; refine wpList_append_own _ rfl (.tmp 26) (.tmp 31) 86 rfl w.heap.size 9 i0 (.string ⟨#[]⟩) 1 16 Try.underlying86 hi hz0 hz1 hz2 rfl (by decide) _ _ _ rfl (HOS.out.alloc _) ⟨wr.heap.size, 0, none⟩ 1 1 [strV ((s.drop f).take (i - f))] rfl rfl HLIT.out (str_one _) (by unfold maxLen; omega) (by omega) (by simp; omega) ?_; intro v6 w6 hown6 hgrow6 _; have HO6 := Lib.hid (OwnS.snoc hown6); have HB6 : Hid (Below w.heap.size w w6) := (HB.out.alloc hzr _).grown hgrow6 (by simp; omega) (fun j hj => (HOS.out.lt j hj).1); clear hown6 hgrow6)
          go_roundw
          case rel => exact ⟨i + 1, by go_num, .inl ⟨_, i + 1, by go_num, HO6.out, HC.out⟩, by omega, HB6.out⟩
          case measure => simp [intOf]; omega
        · have q2 : ((y.toNat : Int) == (m.toNat : Int)) = false := by rw [beq_eq_false_iff_ne]; exact fun e => he (UInt8.toNat_inj.1 (by omega))
          have HC := Lib.hid (HP.out.skip hlt (by rw [HY.out]; exact he))
          go_wp2
          go_roundw
          case rel => exact ⟨i + 1, by go_num, .inl ⟨_, f, rfl, HOS.out, HC.out⟩, by omega, HB.out⟩
          case measure => simp [intOf]; omega
      · obtain rfl : i = s.length := by omega
        have q1 : ((s.length : Int) == (s.length : Int)) = true := by simp
        have HC := Lib.hid (HP.out.last)
        have HLIT := Lib.hid (str_lit wr ((s.drop f).take (s.length - f)) 9)
        have hex : (bsL s).extract f s.length = bsL ((s.drop f).take (s.length - f)) := bsL_cut s f s.length
        go_wp2_with (at_builtin; refine wpList_append_own _ rfl (.tmp 26) (.tmp 31) 86 rfl w.heap.size 9 i0 (.string ⟨#[]⟩) 1 16 Try.underlying86 hi hz0 hz1 hz2 rfl (by decide) _ _ _ rfl (HOS.out.alloc _) ⟨wr.heap.size, 0, none⟩ 1 1 [strV ((s.drop f).take (s.length - f))] rfl rfl HLIT.out (str_one _) (by unfold maxLen; omega) (by omega) (by simp; omega) ?_; intro v6 w6 hown6 hgrow6 _; have HO6 := Lib.hid (OwnS.snoc hown6); have HB6 : Hid (Below w.heap.size w w6) := (HB.out.alloc hzr _).grown hgrow6 (by simp; omega) (fun j hj => (HOS.out.lt j hj).1); clear hown6 hgrow6)
        go_roundw
        case rel => exact ⟨s.length + 1, by go_num, .inr ⟨rfl, by rw [← HC.out]; exact HO6.out⟩, by omega, HB6.out⟩
        case measure => simp [intOf]
    · obtain ⟨ao, co, es⟩ := hos.slice
      subst es
      have HOS := Lib.hid hos
      have hno : ¬ ((s.length + 1 : Nat) : Int) ≤ (s.length : Int) := by omega
      clear hos
      go_wp2
      go_ret
      exact ⟨_, _, _, rfl, HOS.out, HB.out⟩

end Go.Proofs.Ytgeifbgjfbfcfaa

/- Walks: TextRows of the model. -/
namespace Go.Proofs.Ytgeifbgjfbfcfaa
open Go.RowKit

/-- Where the ones stand, as far as k. -/
def onesTo (s : List UInt8) : Nat → List Int
  | 0 => []
  | k + 1 => if s[k]? = some 49 then onesTo s k ++ [(k : Int)] else onesTo s k
def onesL (s : List UInt8) : List Int := onesTo s s.length
theorem onesTo_len (s : List UInt8) : ∀ k, (onesTo s k).length ≤ k := by
  intro k
  induction k with
  | zero => simp [onesTo]
  | succ k ih =>
    rw [onesTo]
    split
    · rw [List.length_append, List.length_singleton]; omega
    · omega
theorem onesTo_i64 (s : List UInt8) : ∀ k, k ≤ 1048576 → ∀ x ∈ onesTo s k, I64 x := by
  intro k
  induction k with
  | zero => intro _ x hx; simp [onesTo] at hx
  | succ k ih =>
    intro hk x hx
    rw [onesTo] at hx
    split at hx
    · rcases List.mem_append.1 hx with h | h
      · exact ih (by omega) x h
      · simp at h; subst h; unfold I64; omega
    · exact ih (by omega) x hx
/-- What the lines say. -/
def gridS (s : List UInt8) (k : Nat) : List (List Int) := ((splitL 10 s).take k).map onesL
def gS (s : List UInt8) : List (List Int) := gridS s ((splitL 10 s).length - 1)
theorem gridS_len {s : List UInt8} {k : Nat} (h : k ≤ (splitL 10 s).length) : (gridS s k).length = k := by simp [gridS, List.length_take]; omega
theorem gridS_step {s : List UInt8} {k : Nat} (h : k < (splitL 10 s).length) : gridS s (k + 1) = gridS s k ++ [onesL (splitL 10 s)[k]] := by
  unfold gridS
  rw [List.take_succ_eq_append_getElem h, List.map_append]
  rfl
theorem split_short (m : UInt8) : ∀ (s : List UInt8), ∀ x ∈ splitL m s, x.length ≤ s.length := by
  intro s
  induction s with
  | nil => intro x hx; simp [splitL] at hx; subst hx; simp
  | cons c t ih =>
    intro x hx
    rw [splitL] at hx
    split at hx
    · rcases List.mem_cons.1 hx with rfl | h
      · simp
      · have := ih x h; simp; omega
    · split at hx
      · simp at hx; subst hx; simp
      · rename_i h r e
        rcases List.mem_cons.1 hx with rfl | h'
        · have := ih h (by rw [e]; simp); simp; omega
        · have := ih x (by rw [e]; simp [h']); simp; omega
/-- Is it the text of a matrix? -/
def TrP (s : List UInt8) : Prop := GraphP (gS s) ∧ rowsL (gS s) = s
open Classical in
noncomputable def trL (s : List UInt8) : List (List Int) := if TrP s then gS s else []
open Classical in
noncomputable def trB (s : List UInt8) : Bool := decide (TrP s)
open Classical in
theorem tr_no {s : List UInt8} (h : ¬ TrP s) : trL s = [] ∧ trB s = false := ⟨if_neg h, decide_eq_false h⟩
open Classical in
theorem tr_yes {s : List UInt8} (h : TrP s) : trL s = gS s ∧ trB s = true := ⟨if_pos h, decide_eq_true h⟩
theorem tr_long {s : List UInt8} (h : 800 < s.length) : ¬ TrP s := by
  rintro ⟨hG, e⟩
  have hz := hG.1
  rw [← e] at h
  have e2 : rowsL (gS s) = rowsTo (adjB (gS s)) (gS s).length (gS s).length := if_pos hG
  rw [e2, rowsTo_len] at h
  have : (gS s).length * ((gS s).length + 1) ≤ 16 * 17 := Nat.mul_le_mul (by omega) (by omega)
  omega

theorem own_keepR {w w' : World} {B n : Nat} {T : TypeId} {v : Value} {xs : List Value} (h : w.ownsRow B T 1 v n xs) (hb : Below w.heap.size w w') : w'.ownsRow B T 1 v n xs :=
  ⟨h.1, h.2.imp (fun h => h) (fun ⟨g, cap, cur, e, hgB, hh, r⟩ => ⟨g, cap, cur, e, hgB, by rw [hb.block g (Array.getElem?_eq_some_iff.1 hh).1]; exact hh, r⟩)⟩
theorem own_some {w : World} {B n : Nat} {T : TypeId} {v : Value} {xs : List Value} (h : w.ownsRow B T 1 v (n + 1) xs) : ∃ g cap, v = .slice (some ⟨g, 0, none⟩) (n + 1) cap := by
  rcases h.2 with ⟨_, e⟩ | ⟨g, cap, cur, e, _⟩
  · omega
  · exact ⟨g, cap, e⟩
/-- The boxes of TextRows at work. -/
structure TrW (w w1 : World) (s : List UInt8) (k : Nat) (wr : World) : Prop where
  res : BoxAt wr w.heap.size (.slice none 0 0)
  out : ∃ a c, BoxAt wr w1.heap.size (.slice a k c) ∧ OwnGrid 2 29 wr (w1.heap.size + 1) (.slice a k c) (gridS s k)
  bel : Below w1.heap.size w1 wr
  size : w1.heap.size + 1 ≤ wr.heap.size
theorem TrW.grow {w w1 wr w2 w7 : World} {s : List UInt8} {k g cap : Nat} {a : Option Addr} {c : Nat} {rv : Value} {R : Nat → Value} (h : TrW w w1 s k wr) (hw : w.heap.size < w1.heap.size) (hk : k < (splitL 10 s).length) (hkl : k ≤ 1048576) (hb : Below wr.heap.size wr w2) (hr : OwnRow 2 w2 wr.heap.size rv (onesL (splitL 10 s)[k]))
    (hbx : BoxAt wr w1.heap.size (.slice a k c)) (hR : wr.ownsRow (w1.heap.size + 1) 29 1 (.slice a k c) k ((List.range k).map R)) (hRr : ∀ i, i < k → OwnRow 2 wr (w1.heap.size + 1) (R i) (nthR (gridS s k) i)) (hRd : ∀ i j q, i < j → j < k → (R i).ownBlock = some q → (R j).ownBlock ≠ some q)
    (hown : w7.ownsRow (w1.heap.size + 1) 29 1 (.slice (some ⟨g, 0, none⟩) (k + 1) cap) (k + 1) ((List.range k).map R ++ [rv])) (hgrow : (w2.alloc (.cells #[rv] 29)).grownBy w7 (Value.slice a k c).ownBlock) :
    BoxAt w7 w1.heap.size (.slice a k c) ∧ TrW w w1 s (k + 1) (w7.setCell ⟨w1.heap.size, 0, none⟩ (.slice (some ⟨g, 0, none⟩) (k + 1) cap)) := by
  have hsz := h.size
  have htl : (gridS s k).length = k := gridS_len (by omega)
  have hW : Below wr.heap.size wr (w2.alloc (.cells #[rv] 29)) := hb.alloc hb.size _
  have hbw : Below (w1.heap.size + 1) wr w7 := (hW.mono hsz).grown hgrow (by rw [size_alloc1]; have := hb.size; omega) (fun j hj => (hR.lt j hj).1)
  have hog : OwnGrid 2 29 w7 (w1.heap.size + 1) (.slice (some ⟨g, 0, none⟩) (k + 1) cap) (gridS s k ++ [onesL (splitL 10 s)[k]]) := by
    refine OwnGrid.snoc (w0 := wr) (w := w2.alloc (.cells #[rv] 29)) (rv := rv) (n := k) (v := .slice a k c) (by decide) hW hsz ?_ htl.symm (by rw [htl]; unfold maxLen; omega) R (by rw [htl]; exact hR) (by rw [htl]; exact hRr) (by rw [htl]; exact hRd) (by rw [htl]; exact hown) hgrow
    exact hr.keep ((Below.refl _ _).alloc (Nat.le_refl _) _)
  rw [← gridS_step hk] at hog
  have hbx7 := hbx.keepB hbw (by omega)
  exact ⟨hbx7, (h.res.keepB hbw (by omega)).setOther (by show w1.heap.size ≠ _; omega) _, ⟨_, cap, hbx7.set _, hog.setBelow (by show w1.heap.size < _; omega) _⟩, (h.bel.trans (hbw.mono (by omega))).setCell (by show _ ≤ w1.heap.size; omega) _, by rw [size_setCell1]; exact Nat.le_trans hsz hbw.size⟩

set_option maxHeartbeats 4000000 in
set_option maxRecDepth 100000 in
theorem specTextRows_any (s : List UInt8) (w : World) (hs : s.length ≤ 1048576) : Calls Try.prog 28 #[.string (bsL s)] w (GaveGB w (trL s) (trB s)) := by
  obtain ⟨i0, hi, hz0, hz1, hz2⟩ := info_parts Try.infoR
  obtain ⟨j0, hj, hy0, hy1, hy2⟩ := info_parts Try.infoI
  have hsz := bsL_size s
  have hbx0 : BoxAt (w.alloc (.cells #[.slice none 0 0] 26)) w.heap.size (.slice none 0 0) := BoxAt.new _ _ _
  have hb0 : Below w.heap.size w (w.alloc (.cells #[.slice none 0 0] 26)) := (Below.refl _ _).alloc (Nat.le_refl _) _
  have HBX0 := Lib.hid hbx0
  have HB0 := Lib.hid hb0
  by_cases hlong : 800 < s.length
  · have HNO := Lib.hid (tr_no (tr_long hlong))
    have hI : (800 : Int) < (s.length : Int) := by omega
    clear hbx0 hb0
    go_enter Try.func28, Try.ntmps28
    go_wp2
    refine bodyPost_ret (v := .tuple #[.agg #[.slice none 0 0], .bool false]) (by simp [results, Try.results28, go_sem]) rfl ?_
    rw [HNO.out.1, HNO.out.2]
    exact GaveGB.no HB0.out
  · have hI : ¬ (800 : Int) < (s.length : Int) := by omega
    obtain ⟨w0, hw0⟩ : ∃ w0, w.alloc (.cells #[.slice none 0 0] 26) = w0 := ⟨_, rfl⟩
    rw [hw0] at hbx0 hb0
    have HW0 := Lib.hid hw0
    clear hw0 HBX0 HB0
    have HBX0 := Lib.hid hbx0
    have HB0 := Lib.hid hb0
    clear hbx0 hb0
    go_enter Try.func28, Try.ntmps28
    go_wp2_with fail
    rw [HW0.out]
    refine (l1Split_any s 10 _ hs).mono ?_
    rintro e w1 ⟨n1, a1, c1, rfl, hos1, hb1⟩
    obtain ⟨a1', c1', e1⟩ := hos1.slice
    simp only [Value.slice.injEq] at e1
    obtain ⟨rfl, rfl, rfl⟩ := e1
    have hzw1 : w.heap.size < w1.heap.size := Nat.lt_of_lt_of_le HBX0.out.lt hb1.size
    have HB1 : Hid (Below w.heap.size w w1) := HB0.out.trans (hb1.mono HB0.out.size)
    have hll := splitL_len 10 s
    have HOS := Lib.hid hos1
    have HSS : Hid (∀ (i : Nat) (hi : i < (splitL 10 s).length), ((splitL 10 s)[i]).length ≤ 800) := fun i hi => by
      have := split_short 10 s _ (List.getElem_mem hi)
      show _ ≤ _; omega
    have hst1 : Below w1.heap.size w1 (w1.alloc (.cells #[.slice none 0 0] 26)) := (Below.refl _ _).alloc (Nat.le_refl _) _
    have HW : Hid (TrW w w1 s 0 (w1.alloc (.cells #[.slice none 0 0] 26))) := ⟨(HBX0.out.keep hb1).keep hst1, ⟨none, 0, BoxAt.new _ _ _, own_nil _ _⟩, hst1, by simp⟩
    have HGE : Hid (gS s = gridS s ((splitL 10 s).length - 1)) := rfl
    have HGL : Hid (∀ k, k ≤ (splitL 10 s).length → (gridS s k).length = k) := fun k hk => gridS_len hk
    obtain ⟨S, hS⟩ : ∃ S, splitL 10 s = S := ⟨_, rfl⟩
    have HSE := Lib.hid hS
    have hSl : S.length ≤ 801 ∧ 0 < S.length := by rw [← hS]; omega
    rw [hS] at HOS HGE HGL
    have HSS2 : Hid (∀ (i : Nat) (hi : i < S.length), (S[i]).length ≤ 800) := by
      subst hS; exact HSS.out
    rw [hS]
    clear hos1 hb1 hst1 hS HSS hll HB0 HBX0 HW0
    go_wp2_with fail
    go_loopw [6] (fun iv wr => ∃ k : Nat, k ≤ S.length - 1 ∧ iv = .int .i64 k ∧ TrW w w1 s k wr) (fun iv _ => S.length - (intOf iv).toNat)
    case atStart => exact ⟨0, Nat.zero_le _, rfl, HW.out⟩
    case round =>
      clear HW
      obtain ⟨k, hk, rfl, hw⟩ := hrel
      have HW := Lib.hid hw
      have hwrap : IntKind.i64.wrap ((S.length : Int) - 1) = ((S.length - 1 : Nat) : Int) := by rw [IntWalk.i64_in _ (by omega)]; omega
      by_cases hlt : k < S.length - 1
      · have hltI : (k : Int) < (S.length : Int) - 1 := by omega
        have hkS : k < S.length := by omega
        obtain ⟨g1, cap1, eg, hg1l, hg1c, hcs⟩ := (HOS.out.keep hw.bel).pos (by omega)
        simp only [Value.slice.injEq, true_and] at eg
        obtain ⟨rfl, rfl⟩ := eg
        have hck := hcs k hkS
        have hyl := HSS2.out k hkS
        have HSK : Hid (∃ h : k < (splitL 10 s).length, (splitL 10 s)[k] = S[k]) := by
          have e := HSE.out
          subst e
          exact ⟨hkS, rfl⟩
        obtain ⟨Y, hY⟩ : ∃ Y, S[k] = Y := ⟨_, rfl⟩
        rw [hY] at hck hyl HSK
        have hyz := bsL_size Y
        have HOE : Hid (OwnRow 2 (wr.alloc (.cells #[] 2)) wr.heap.size (.slice (some ⟨wr.heap.size, 0, none⟩) 0 0) []) := empty_own wr _ (Nat.le_refl _)
        have hst : Below wr.heap.size wr (wr.alloc (.cells #[] 2)) := (Below.refl _ _).alloc (Nat.le_refl _) _
        have HSTB := Lib.hid hst
        have KC : Hid (∀ w', Below wr.heap.size wr w' → w'.cell? ⟨g1, k, none⟩ = some (.string (bsL Y))) := fun w' h => cell_keep h hck
        clear hcs hY hck hw hst
        go_wp2_with fail
        go_loopw [7, 8] (fun rv uv wx => ∃ j : Nat, j ≤ Y.length ∧ uv = .int .i64 j ∧ OwnRow 2 wx wr.heap.size rv (onesTo Y j) ∧ Below wr.heap.size wr wx) (fun _ uv _ => Y.length - (intOf uv).toNat)
        case atStart => exact ⟨0, Nat.zero_le _, rfl, HOE.out, HSTB.out⟩
        case round =>
          clear HOE HSTB
          rename World => wx
          obtain ⟨j, hj2, rfl, hor, hbx⟩ := hrel
          obtain ⟨ar, cr, er⟩ := hor.row.slice
          subst er
          have hck := KC.out _ hbx
          have holen := onesTo_len Y j
          have HOR := Lib.hid hor
          have HBX := Lib.hid hbx
          have hzx : wr.heap.size ≤ wx.heap.size := hbx.size
          clear hor hbx
          by_cases hjl : j < Y.length
          · have hjI : (j : Int) < (Y.length : Int) := by omega
            have hix : ∀ w, (Instr.index 9 (.string (bsL Y)) (.int .i64 (j : Int))).run Try.prog w = .ok (.int .u8 (Y[j].toNat : Int)) w := fun w => idx_bytes Y j hjl w
            have HI64 : Hid (∀ x ∈ onesTo Y (j + 1), I64 x) := onesTo_i64 Y (j + 1) (by omega)
            have HGET : Hid (Y[j]? = some Y[j]) := List.getElem?_eq_getElem hjl
            obtain ⟨y, hy⟩ : ∃ y, Y[j] = y := ⟨_, rfl⟩
            rw [hy] at hix HGET
            clear hy
            have HST : Hid (onesTo Y (j + 1) = if y = 49 then onesTo Y j ++ [(j : Int)] else onesTo Y j) := by
              show _ = _
              rw [onesTo, HGET.out]
              simp
            obtain ⟨O, hO⟩ : ∃ O, onesTo Y j = O := ⟨_, rfl⟩
            rw [hO] at HOR HST holen ⊢
            clear hO
            by_cases he : y = 49
            · subst he
              rw [if_pos rfl] at HST
              have q2 : (((49 : UInt8).toNat : Int) == 49) = true := rfl
              go_wp2_with (at_builtin; refine wpList_append_own _ rfl (.tmp 40) (.tmp 42) 29 rfl wr.heap.size 2 j0 (.int .i64 0) 1 8 Try.underlying29 hj hy0 hy1 hy2 rfl (by decide) _ _ _ rfl (HOR.out.owns.alloc _) ⟨wx.heap.size, 0, none⟩ 1 1 [.int .i64 (j : Int)] rfl rfl (lit1 _ _ _) (one1 _) (by unfold maxLen; omega) (by omega) (by simp; omega) ?_; intro v6 w6 hown6 hgrow6 _; have HO6 : Hid (OwnRow 2 w6 wr.heap.size v6 (onesTo Y (j + 1))) := (by have hh := HI64.out; show OwnRow _ _ _ _ _; rw [HST.out] at hh ⊢; exact OwnRow.of_ownsRow (n := O.length + 1) (by simpa using hown6) (by simp; unfold maxLen; omega) hh); have HB6 : Hid (Below wr.heap.size wr w6) := (HBX.out.alloc hzx _).grown hgrow6 (by simp; omega) (fun j hj => (HOR.out.lt j hj).1); clear hown6 hgrow6)
              go_roundw
              case rel => exact ⟨j + 1, by omega, by go_num, HO6.out, HB6.out⟩
              case measure => simp [intOf]; omega
            · rw [if_neg he] at HST
              have q2 : ((y.toNat : Int) == 49) = false := by rw [beq_eq_false_iff_ne]; exact fun e => he (UInt8.toNat_inj.1 (by have : (49 : UInt8).toNat = 49 := rfl; omega))
              go_wp2
              go_roundw
              case rel => exact ⟨j + 1, by omega, by go_num, by rw [HST.out]; exact HOR.out, HBX.out⟩
              case measure => simp [intOf]; omega
          · obtain rfl : j = Y.length := by omega
            obtain ⟨ag, cg, hbg, hog⟩ := HW.out.out
            obtain ⟨R, hR, hRr, hRd⟩ := hog.owns
            have htl := HGL.out k (by omega)
            rw [htl] at hR hRr hRd
            have kt := cell_keep HBX.out hbg.1
            have HBG := Lib.hid hbg
            have HR := Lib.hid hR
            have HRr := Lib.hid hRr
            have HRd := Lib.hid hRd
            have HOW : Hid (wx.ownsRow (w1.heap.size + 1) 29 1 (.slice ag k cg) k ((List.range k).map R)) := own_keepR hR HBX.out
            have hzw := HW.out.size
            have HOY : Hid (OwnRow 2 wx wr.heap.size (.slice ar (onesTo Y Y.length).length cr) (onesL Y)) := HOR.out
            obtain ⟨nr, hnr⟩ : ∃ nr, (onesTo Y Y.length).length = nr := ⟨_, rfl⟩
            rw [hnr] at HOY ⊢
            have kta := cell_keep ((Below.refl wx.heap.size wx).alloc (Nat.le_refl _) (.cells #[.slice ar nr cr] 29)) kt
            clear hbg hog hR hRr hRd htl hnr holen HOR
            go_wp2_with (at_builtin; refine wpList_append_own _ rfl (.tmp 45) (.tmp 47) 24 rfl (w1.heap.size + 1) 29 i0 (.slice none 0 0) 1 24 Try.underlying24 hi hz0 hz1 hz2 rfl (by decide) _ _ _ rfl (HOW.out.alloc _) ⟨wx.heap.size, 0, none⟩ 1 1 [.slice ar nr cr] rfl rfl (World.news_of_block (heap_alloc_new _ _)) (fun u hu => by simp at hu; subst hu; rfl) (by unfold maxLen; omega) (by omega) (by rw [size_alloc1]; omega) ?_; intro v7 w7 hown7 hgrow7 hnil7; obtain ⟨g7, cap7, e7⟩ := own_some hown7; subst e7; have hgw := HW.out.grow hzw1 HSK.out.1 (by omega) HBX.out (by rw [HSK.out.2]; exact HOY.out) HBG.out HR.out HRr.out HRd.out hown7 hgrow7; have kt7 := hgw.1.1; have ft7 := hgw.1.2; have HW7 := Lib.hid hgw.2; clear hown7 hgrow7 hgw hnil7)
            clear kt7 ft7
            go_roundw
            case rel => exact ⟨k + 1, by omega, by go_num, HW7.out⟩
            case measure => simp [intOf]; omega
      · obtain rfl : k = S.length - 1 := by omega
        obtain ⟨ag, cg, hbg, hog⟩ := hw.out
        rw [← HGE.out] at hog
        have HOG := Lib.hid hog
        have kt := hbg.1
        have kr := hw.res.1
        have kf := hw.res.2
        have HBR : Hid (Below w.heap.size w wr) := HB1.out.trans (hw.bel.mono HB1.out.size)
        have hng : ¬ ((S.length - 1 : Nat) : Int) < (S.length : Int) - 1 := by omega
        have hn1 : ((S.length - 1 : Nat) : Int) = (S.length : Int) - 1 := by omega
        obtain ⟨kk, hkk⟩ : ∃ kk, S.length - 1 = kk := ⟨_, rfl⟩
        rw [hkk] at hog kt hng HOG hn1 ⊢
        have HRES := Lib.hid hw.res
        have HBG := Lib.hid hbg
        have hzr : w1.heap.size + 1 ≤ wr.heap.size := hw.size
        clear hog hbg hw hkk HW hwrap hk hlt
        go_wp2_with fail
        refine (specGraphOk_any _ (gS s) _ HOG.out.grid).mono ?_
        rintro e w4 ⟨rfl, hb4⟩
        have kt4 := cell_keep hb4 kt
        have HRES4 := Lib.hid (HRES.out.keep hb4)
        have kr4 := HRES4.out.1
        have kf4 := HRES4.out.2
        have HOG4 := Lib.hid (HOG.out.keep hb4)
        have HB4 : Hid (Below w.heap.size w w4) := HBR.out.trans (hb4.mono HBR.out.size)
        clear hb4 kt kr kf
        by_cases hG : GraphP (gS s)
        · rw [decide_eq_true hG]
          have HG := Lib.hid hG
          clear hG
          go_wp2_with fail
          refine (specRowsText_any _ (gS s) _ HOG4.out.grid).mono ?_
          rintro e w5 ⟨rfl, hb5⟩
          have kt5 := cell_keep hb5 kt4
          have HRES5 := Lib.hid (HRES4.out.keep hb5)
          have kr5 := HRES5.out.1
          have kf5 := HRES5.out.2
          have HOG5 := Lib.hid (HOG4.out.keep hb5)
          have HB5 : Hid (Below w.heap.size w w5) := HB4.out.trans (hb5.mono HB4.out.size)
          clear hb5 kt4 kr4 kf4
          by_cases he : rowsL (gS s) = s
          · have HY := Lib.hid (tr_yes ⟨HG.out, he⟩)
            have hcmp : ((bsL (rowsL (gS s))).toList == (bsL s).toList) = true := by rw [bsL_list, bsL_list, he]; simp
            clear he
            go_wp2
            refine bodyPost_ret (v := .tuple #[.agg #[.slice ag kk cg], .bool true]) (by simp [results, Try.results28, go_sem, cell_set_same _ HRES5.out.1]) rfl ?_
            rw [HY.out.1, HY.out.2]
            exact ⟨_, _, _, rfl, (HOG5.out.setBelow (a := ⟨w.heap.size, 0, none⟩) (by show w.heap.size < _; omega) _).mono (by omega), HB5.out.setCell (p := ⟨w.heap.size, 0, none⟩) (Nat.le_refl _) _⟩
          · have HN := Lib.hid (tr_no (s := s) (fun h => he h.2))
            have hcmp : ((bsL (rowsL (gS s))).toList == (bsL s).toList) = false := by rw [bsL_list, bsL_list, beq_eq_false_iff_ne]; exact he
            clear he
            go_wp2
            refine bodyPost_ret (v := .tuple #[.agg #[.slice none 0 0], .bool false]) (by simp [results, Try.results28, go_sem, cell_set_same _ HRES5.out.1]) rfl ?_
            rw [HN.out.1, HN.out.2]
            exact GaveGB.no (HB5.out.setCell (p := ⟨w.heap.size, 0, none⟩) (Nat.le_refl _) _)
        · rw [decide_eq_false hG]
          have HN := Lib.hid (tr_no (s := s) (fun h => hG h.1))
          clear hG
          go_wp2
          refine bodyPost_ret (v := .tuple #[.agg #[.slice none 0 0], .bool false]) (by simp [results, Try.results28, go_sem, cell_set_same _ HRES4.out.1]) rfl ?_
          rw [HN.out.1, HN.out.2]
          exact GaveGB.no (HB4.out.setCell (p := ⟨w.heap.size, 0, none⟩) (Nat.le_refl _) _)

end Go.Proofs.Ytgeifbgjfbfcfaa
