/- The texts RT1, RT2, RT3, joined. -/
import Derived.Test.YtgeifbgjfbfcfaaQCO1
import Derived.Laws.Concat
import Derived.Laws.BytesString
import Derived.Laws.Strings
import Derived.Laws.Strings2
import Derived.Laws.Strings3
import Derived.Test.YtgeifbgjfbfcfaaQEM3
import Derived.Test.YtgeifbgjfbfcfaaQCN1
import Derived.Test.YtgeifbgjfbfcfaaQD5

/- Words for strings; walks: the model's decimal text of a number. -/
namespace Go.Proofs.Ytgeifbgjfbfcfaa
open Go.RowKit

/-- A string by its bytes. -/
def bsL (l : List UInt8) : ByteArray := ⟨l.toArray⟩
theorem bsL_app (x y : List UInt8) : bsL x ++ bsL y = bsL (x ++ y) := ByteArray.mk_append_mk x y
theorem bsL_size (l : List UInt8) : (bsL l).size = l.length := by simp [bsL, ByteArray.size]
theorem bsL_list (l : List UInt8) : (bsL l).toList = l := ByteArray.toList_mk l
theorem bsL_empty (l : List UInt8) : (bsL l).toList.isEmpty = l.isEmpty := by rw [bsL_list]
theorem bsL_inj {x y : List UInt8} (h : bsL x = bsL y) : x = y := by
  unfold bsL at h
  simp only [ByteArray.mk.injEq] at h
  have := congrArg Array.toList h
  simpa using this
/-- A digit. -/
def dgt (n : Nat) : UInt8 := UInt8.ofNat (48 + n)
theorem dgt_nat {n : Nat} (h : n < 10) : (dgt n).toNat = 48 + n := by
  unfold dgt
  rw [UInt8.toNat_ofNat']
  omega
/-- The decimal text of a number. -/
def dgs (n : Nat) : List UInt8 := if h : n < 10 then [dgt n] else dgs (n / 10) ++ [dgt (n % 10)]
termination_by n
decreasing_by omega
theorem dgs_one {n : Nat} (h : n < 10) : dgs n = [dgt n] := by rw [dgs]; simp [h]
theorem dgs_more {n : Nat} (h : ¬ n < 10) : dgs n = dgs (n / 10) ++ [dgt (n % 10)] := by rw [dgs]; simp [h]
theorem dgs_len : ∀ (k n : Nat), n < 10 ^ k → 0 < k → (dgs n).length ≤ k := by
  intro k
  induction k with
  | zero => intro n _ h; omega
  | succ k ih =>
    intro n hn _
    by_cases h : n < 10
    · rw [dgs_one h]; simp
    · rw [dgs_more h, List.length_append, List.length_singleton]
      have hk : 0 < k := by
        rcases Nat.eq_zero_or_pos k with e | e
        · subst e; simp at hn; omega
        · exact e
      have := ih (n / 10) (by rw [Nat.pow_succ] at hn; omega) hk
      omega
/-- What is left to be put ahead of t. -/
def IntP (N m : Nat) (t : List UInt8) : Prop := (t = [] ∧ m = N) ∨ (t ≠ [] ∧ (if m = 0 then t else dgs m ++ t) = dgs N)
theorem IntP.step {N m : Nat} {t : List UInt8} (h : IntP N m t) (hm : t = [] ∨ m ≠ 0) : IntP N (m / 10) (dgt (m % 10) :: t) := by
  refine .inr ⟨by simp, ?_⟩
  have e : (if m / 10 = 0 then dgt (m % 10) :: t else dgs (m / 10) ++ dgt (m % 10) :: t) = dgs m ++ t := by
    by_cases h0 : m < 10
    · rw [if_pos (by omega), dgs_one h0, Nat.mod_eq_of_lt h0]; rfl
    · rw [if_neg (by omega), dgs_more h0]; simp
  rw [e]
  rcases h with ⟨rfl, rfl⟩ | ⟨h1, h2⟩
  · simp
  · have : m ≠ 0 := hm.elim (fun h => absurd h h1) id
    rwa [if_neg this] at h2

theorem IntP.len {N m : Nat} {t : List UInt8} (h : IntP N m t) (hN : N < 1000000000) : t.length ≤ 9 := by
  rcases h with ⟨rfl, _⟩ | ⟨_, h⟩
  · simp
  · have hl := dgs_len 9 N (by omega) (by omega)
    rw [← h] at hl
    split at hl
    · exact hl
    · rw [List.length_append] at hl; omega
theorem fold_bytes : ∀ (l : List UInt8) (b : List UInt8), (l.map (fun x : UInt8 => (x.toNat : Int))).foldl (fun r n => r.push (UInt8.ofNat n.toNat)) (bsL b) = bsL (b ++ l) := by
  intro l
  induction l with
  | nil => intro b; simp
  | cons x t ih =>
    intro b
    rw [List.map_cons, List.foldl_cons]
    have e : (bsL b).push (UInt8.ofNat ((x.toNat : Int)).toNat) = bsL (b ++ [x]) := by
      simp [bsL, ByteArray.push]
    rw [e, ih]
    simp
/-- Bytes that lie in a row, as a string. -/
theorem conv_row (w : World) (a : Addr) (l : List UInt8) (c : Nat) (h : ∀ j v, (l.map (fun x : UInt8 => Value.int .u8 (x.toNat : Int)))[j]? = some v → w.cell? (a.add j) = some v) :
    (convert 22 9 (.slice (some a) l.length c)).run Try.prog w = .ok (.string (bsL l)) w := by
  rw [run_convert_bytes_string w 22 9 5 (some a) l.length c Try.underlying22 Try.underlying5 Try.underlying9]
  have hl := run_loadCells_list (P := Try.prog) w a (l.map (fun x : UInt8 => Value.int .u8 (x.toNat : Int))) h
  have := run_bytesToString (P := Try.prog) w a l.length c (l.map (fun x : UInt8 => (x.toNat : Int))) (by simpa [List.map_map, Function.comp_def] using hl)
  rw [this]
  have e := fold_bytes l []
  rw [List.nil_append] at e
  exact congrArg (fun b => Result.ok (Value.string b) w) e
theorem conv_one (w : World) (x : UInt8) (T : TypeId) : (convert 22 9 (.slice (some ⟨w.heap.size, 0, none⟩) 1 1)).run Try.prog (w.alloc (.cells #[.int .u8 (x.toNat : Int)] T)) = .ok (.string (bsL [x])) (w.alloc (.cells #[.int .u8 (x.toNat : Int)] T)) := by
  refine conv_row _ ⟨w.heap.size, 0, none⟩ [x] 1 (fun j v hj => ?_)
  match j, hj with
  | 0, hj => simp at hj; subst hj; simp [Addr.add]
/-- Is a string empty? -/
def strN : Value → Nat
  | .string b => if b.size = 0 then 1 else 0
  | _ => 0
theorem strN_nil : strN (.string (bsL [])) = 1 := rfl
theorem strN_cons (x : UInt8) (t : List UInt8) : strN (.string (bsL (x :: t))) = 0 := by simp [strN, bsL_size]

set_option maxHeartbeats 1000000 in
set_option maxRecDepth 100000 in
theorem l1Int_any (N : Nat) (w : World) (hN : N < 1000000000) : Calls Try.prog 59 #[.int .i64 (N : Int)] w fun e w' => e = .returned (.string (bsL (dgs N))) ∧ Below w.heap.size w w' := by
  have e0 : (.string { data := #[] } : Value) = .string (bsL []) := rfl
  have q0 : decide ((N : Int) < 0) = false := decide_eq_false (by omega)
  go_enter Try.func59, Try.ntmps59
  go_wp2_with fail
  go_loopw [0, 3] (fun nv sv wr => ∃ m t, nv = .int .i64 ((m : Nat) : Int) ∧ sv = .string (bsL t) ∧ m ≤ N ∧ IntP N m t ∧ Below w.heap.size w wr) (fun nv sv _ => strN sv + (intOf nv).toNat)
  case atStart => exact ⟨N, [], rfl, rfl, Nat.le_refl _, .inl ⟨rfl, rfl⟩, Below.refl _ _⟩
  case round =>
    obtain ⟨m, t, rfl, rfl, hm, hp, hb⟩ := hrel
    have hlen := hp.len hN
    have HP := Lib.hid hp
    have HB := Lib.hid hb
    clear hp hb
    by_cases hgo : t = [] ∨ m ≠ 0
    · have HST := Lib.hid (HP.out.step hgo)
      have hm10 : ((m : Int) % 10).toNat = m % 10 := by omega
      have hlt : (m : Int) % 10 < 10 := by omega
      have hge : 0 ≤ (m : Int) % 10 := by omega
      have hcv : (convert 22 9 (.slice (some ⟨wr.heap.size, 0, none⟩) 1 1)).run Try.prog (wr.alloc (.cells #[.int .u8 (48 + (m : Int) % 10)] 5)) = .ok (.string (bsL [dgt (m % 10)])) (wr.alloc (.cells #[.int .u8 (48 + (m : Int) % 10)] 5)) := by
        have := conv_one wr (dgt (m % 10)) 5
        rw [dgt_nat (show m % 10 < 10 by omega), show ((48 + m % 10 : Nat) : Int) = 48 + (m : Int) % 10 by omega] at this
        exact this
      have hsz : ¬ (bsL [dgt (m % 10)]).size + (bsL t).size > 9223372036854775807 := by rw [bsL_size, bsL_size]; simp; omega
      rcases Classical.em (t = []) with ht | ht
      case' inl =>
        subst ht
        have hs : (bsL []).toList.isEmpty = true := by rw [bsL_empty]; rfl
      case' inr =>
        have hs : (bsL t).toList.isEmpty = false := by rw [bsL_empty]; simpa using ht
        have hm0 : ((m : Int) != 0) = true := by rw [bne_iff_ne]; rcases hgo with e | e; exact absurd e ht; omega
        have hmp : 0 < m := by rcases hgo with e | e; exact absurd e ht; omega
        clear ht
      all_goals (
        clear hgo hm10
        go_wp2
        go_roundw
        case rel => exact ⟨m / 10, dgt (m % 10) :: _, by go_num, by rw [bsL_app]; rfl, by omega, HST.out, HB.out.alloc HB.out.size _⟩
        case measure =>
          have e1 : ∀ t, strN (.string (bsL [dgt (m % 10)] ++ bsL t)) = 0 := fun t => by rw [bsL_app]; exact strN_cons _ _
          have e2 : strN (.string (bsL [])) = 1 := rfl
          simp only [e1, e2, intOf]
          omega)
    · have ht : t ≠ [] := fun e => hgo (.inl e)
      obtain rfl : m = 0 := by rcases Nat.eq_zero_or_pos m with e | e; exact e; exact absurd (.inr (by omega)) hgo
      have HF : Hid (t = dgs N) := by
        rcases HP.out with ⟨e, _⟩ | ⟨_, h⟩
        · exact absurd e ht
        · rw [if_pos rfl] at h; exact h
      have hs : (bsL t).toList.isEmpty = false := by rw [bsL_empty]; simpa using ht
      clear ht hgo
      go_wp2
      go_ret
      exact ⟨by rw [HF.out]; rfl, HB.out⟩

end Go.Proofs.Ytgeifbgjfbfcfaa

/- Walks: RowsText of the model. -/
namespace Go.Proofs.Ytgeifbgjfbfcfaa
open Go.RowKit

/-- A yes or no as a digit. -/
def bitC (b : Bool) : UInt8 := dgt (if b then 1 else 0)
theorem dgs_flag (b : Bool) : dgs (if b then 1 else 0) = [bitC b] := by cases b <;> exact dgs_one (by decide)
/-- A line of the matrix, as far as u. -/
def lineTo (A : Nat → Nat → Bool) (v u : Nat) : List UInt8 := (List.range u).map (fun j => bitC (A v j))
theorem lineTo_len (A : Nat → Nat → Bool) (v u : Nat) : (lineTo A v u).length = u := by simp [lineTo]
theorem lineTo_zero (A : Nat → Nat → Bool) (v : Nat) : lineTo A v 0 = [] := rfl
theorem lineTo_step (A : Nat → Nat → Bool) (v u : Nat) : lineTo A v (u + 1) = lineTo A v u ++ [bitC (A v u)] := by simp [lineTo, List.range_succ]
/-- The first v lines. -/
def rowsTo (A : Nat → Nat → Bool) (n : Nat) : Nat → List UInt8
  | 0 => []
  | v + 1 => rowsTo A n v ++ (lineTo A v n ++ [10])
theorem rowsTo_len (A : Nat → Nat → Bool) (n v : Nat) : (rowsTo A n v).length = v * (n + 1) := by
  induction v with
  | zero => simp [rowsTo]
  | succ v ih => rw [rowsTo, List.length_append, List.length_append, ih, lineTo_len, Nat.succ_mul]; simp
/-- The text of the matrix. -/
def rowsL (L : List (List Int)) : List UInt8 := if GraphP L then rowsTo (adjB L) L.length L.length else []

set_option maxHeartbeats 2000000 in
set_option maxRecDepth 100000 in
theorem specRowsText_any (v : Value) (L : List (List Int)) (w : World) (h : GridAt w v L) : Calls Try.prog 26 #[.agg #[v]] w fun e w' => e = .returned (.string (bsL (rowsL L))) ∧ Below w.heap.size w w' := by
  obtain ⟨a0, c0, rfl⟩ := h.slice
  have hlm := h.len
  unfold maxLen at hlm
  have ha : Below w.heap.size w (w.alloc (.cells #[.slice a0 L.length c0] 26)) := (Below.refl _ _).alloc (Nat.le_refl _) _
  have kg0 : (w.alloc (.cells #[.slice a0 L.length c0] 26)).cell? ⟨w.heap.size, 0, none⟩ = some (.slice a0 L.length c0) := by go_simp
  obtain ⟨w0, hw0⟩ : ∃ w0, w.alloc (.cells #[.slice a0 L.length c0] 26) = w0 := ⟨_, rfl⟩
  rw [hw0] at ha kg0
  have HW0 := Lib.hid hw0
  have HA := Lib.hid ha
  have hzw : w.heap.size ≤ w0.heap.size := ha.size
  have KG : Hid (∀ w', Below w0.heap.size w0 w' → w'.cell? ⟨w.heap.size, 0, none⟩ = some (.slice a0 L.length c0)) := fun w' hb => cell_keep hb kg0
  have GK : Hid (∀ w', Below w0.heap.size w0 w' → GridAt w' (.slice a0 L.length c0) L) := fun w' hb => (h.keep ha).keep hb
  clear h hw0 ha kg0
  go_enter Try.func26, Try.ntmps26
  go_wp2_with fail
  rw [HW0.out]
  go_loopw [3, 4] (fun sv vv wr => ∃ k : Nat, k ≤ L.length ∧ (0 < k → GraphP L) ∧ vv = .int .i64 k ∧ sv = .string (bsL (rowsTo (adjB L) L.length k)) ∧ Below w0.heap.size w0 wr) (fun _ vv _ => L.length - (intOf vv).toNat)
  case atStart => exact ⟨0, Nat.zero_le _, fun h => absurd h (by omega), rfl, rfl, Below.refl _ _⟩
  case round =>
    obtain ⟨k, hk, hkg, rfl, rfl, hb⟩ := hrel
    have HKG := Lib.hid hkg
    have HB := Lib.hid hb
    have kg := KG.out _ hb
    clear hb hkg
    go_wp2_with fail
    refine (l1Size_any _ L _ (GK.out _ HB.out)).mono ?_
    rintro e w1 ⟨rfl, hb1⟩
    have HB1 : Hid (Below w0.heap.size w0 w1) := HB.out.trans (hb1.mono HB.out.size)
    have kg1 := KG.out _ HB1.out
    clear hb1 kg HB
    by_cases hlt : k < L.length
    · have hltI : (k : Int) < (L.length : Int) := by omega
      go_wp2_with fail
      refine (specGraphOk_any _ _ _ (GK.out _ HB1.out)).mono ?_
      rintro e w2 ⟨rfl, hb2⟩
      have HB2 : Hid (Below w0.heap.size w0 w2) := HB1.out.trans (hb2.mono HB1.out.size)
      clear hb2 kg1 HB1
      by_cases hG : GraphP L
      · rw [decide_eq_true hG]
        have HG := Lib.hid hG
        have hz := hG.1
        have hrl := rowsTo_len (adjB L) L.length k
        have hkm : k * (L.length + 1) ≤ 16 * 17 := Nat.mul_le_mul (by omega) (by omega)
        obtain ⟨X, hX⟩ : ∃ X, rowsTo (adjB L) L.length k = X := ⟨_, rfl⟩
        have HXS : Hid (rowsTo (adjB L) L.length (k + 1) = X ++ (lineTo (adjB L) k L.length ++ [10])) := by rw [← hX]; rfl
        rw [hX] at hrl ⊢
        have hxl : X.length ≤ 272 := by omega
        clear hrl hX hkm hG
        go_wp2_with fail
        go_loopw [3, 5] (fun sv uv wx => ∃ j : Nat, j ≤ L.length ∧ uv = .int .i64 j ∧ sv = .string (bsL (X ++ lineTo (adjB L) k j)) ∧ Below w0.heap.size w0 wx) (fun _ uv _ => L.length - (intOf uv).toNat)
        case atStart => exact ⟨0, Nat.zero_le _, rfl, by rw [lineTo_zero, List.append_nil], HB2.out⟩
        case round =>
          clear HB2
          rename World => wx
          obtain ⟨j, hj, rfl, rfl, hb⟩ := hrel
          have HBX := Lib.hid hb
          have kg := KG.out _ hb
          clear hb
          go_wp2_with fail
          refine (l1Size_any _ L _ (GK.out _ HBX.out)).mono ?_
          rintro e w3 ⟨rfl, hb3⟩
          have HB3 : Hid (Below w0.heap.size w0 w3) := HBX.out.trans (hb3.mono HBX.out.size)
          have kg3 := KG.out _ HB3.out
          have hyl := lineTo_len (adjB L) k j
          obtain ⟨Y, hY⟩ : ∃ Y, X ++ lineTo (adjB L) k j = Y := ⟨_, rfl⟩
          have HYL : Hid (X ++ lineTo (adjB L) k j = Y) := hY
          have hyy : Y.length ≤ 300 := by rw [← hY, List.length_append]; omega
          rw [hY]
          clear hb3 kg HBX hyl hY
          by_cases hjl : j < L.length
          · have hjI : (j : Int) < (L.length : Int) := by omega
            go_wp2_with fail
            refine (l1Edge_any _ L (k : Int) (j : Int) _ (GK.out _ HB3.out) (by omega) (by omega)).mono ?_
            rintro e w4 ⟨rfl, hb4⟩
            have HB4 : Hid (Below w0.heap.size w0 w4) := HB3.out.trans (hb4.mono HB3.out.size)
            rw [Int.toNat_natCast, adjB_has HG.out (by omega) (by omega)]
            obtain ⟨E, hE⟩ : ∃ E, adjB L k j = E := ⟨_, rfl⟩
            have HST : Hid (X ++ lineTo (adjB L) k (j + 1) = Y ++ [bitC E]) := by show _ = _; rw [lineTo_step, ← List.append_assoc, HYL.out, hE]
            rw [hE]
            clear hb4 kg3 HB3 hE
            go_wp2_with fail
            refine (l1Flag_any _ _).mono ?_
            rintro e w' ⟨rfl, rfl⟩
            have HI : Hid (Calls Try.prog 59 #[.int .i64 (flagI E)] w4 fun e w' => e = .returned (.string (bsL [bitC E])) ∧ Below w4.heap.size w4 w') := by
              have := l1Int_any (if E then 1 else 0) w4 (by split <;> omega)
              rw [dgs_flag] at this
              cases E <;> exact this
            have hsz : ¬ (bsL Y).size + (bsL [bitC E]).size > 9223372036854775807 := by rw [bsL_size, bsL_size]; simp; omega
            go_wp2_with fail
            refine HI.out.mono ?_
            rintro e w5 ⟨rfl, hb5⟩
            have HB5 : Hid (Below w0.heap.size w0 w5) := HB4.out.trans (hb5.mono HB4.out.size)
            clear hb5 HI
            go_wp2
            go_roundw
            case rel => exact ⟨j + 1, by omega, by go_num, by rw [bsL_app, HST.out], HB5.out⟩
            case measure => simp [intOf]; omega
          · obtain rfl : j = L.length := by omega
            have hsz : ¬ (bsL Y).size + (bsL [10]).size > 9223372036854775807 := by rw [bsL_size, bsL_size]; simp; omega
            clear kg3
            go_wp2
            go_roundw
            case rel => exact ⟨k + 1, by omega, fun _ => HG.out, by go_num, by rw [HXS.out, ← List.append_assoc, HYL.out, ← bsL_app]; rfl, HB3.out⟩
            case measure => simp [intOf]; omega
      · rw [decide_eq_false hG]
        obtain rfl : k = 0 := by rcases Nat.eq_zero_or_pos k with e | e; exact e; exact absurd (HKG.out e) hG
        have HF : Hid (rowsL L = []) := if_neg hG
        clear hG
        go_wp2
        go_ret
        exact ⟨by rw [HF.out]; rfl, HA.out.trans (HB2.out.mono hzw)⟩
    · obtain rfl : k = L.length := by omega
      have HF : Hid (rowsL L = rowsTo (adjB L) L.length L.length) := by
        show _ = _
        unfold rowsL
        by_cases hG : GraphP L
        · rw [if_pos hG]
        · rw [if_neg hG]
          rcases Nat.eq_zero_or_pos L.length with e | e
          · rw [e]; rfl
          · exact absurd (HKG.out e) hG
      have q1 : decide ((L.length : Int) < (L.length : Int)) = false := decide_eq_false (by omega)
      clear kg1
      go_wp2
      go_ret
      exact ⟨by rw [HF.out]; rfl, HA.out.trans (HB1.out.mono hzw)⟩

end Go.Proofs.Ytgeifbgjfbfcfaa

/- Walks: RowsText of the program. -/
namespace Go.Proofs.Ytgeifbgjfbfcfaa
open Go.RowKit

theorem Try.infoB : (Try.prog.info? 5).map (fun i => (i.zero, i.size, i.bytes)) = some (some (.int .u8 0), 1, 1) := by kernel_rfl
/-- A byte. -/
def byteV (x : UInt8) : Value := .int .u8 (x.toNat : Int)
/-- Bytes of one's own. -/
def OwnB (w : World) (B : Nat) (v : Value) (l : List UInt8) : Prop := w.ownsRow B 5 1 v l.length (l.map byteV)
theorem OwnB.keep {w w' : World} {B : Nat} {v : Value} {l : List UInt8} (h : OwnB w B v l) (hb : Below w.heap.size w w') : OwnB w' B v l :=
  ⟨h.1, h.2.imp (fun h => h) (fun ⟨g, cap, cur, e, hgB, hh, r⟩ => ⟨g, cap, cur, e, hgB, by rw [hb.block g (Array.getElem?_eq_some_iff.1 hh).1]; exact hh, r⟩)⟩
theorem OwnB.empty (w : World) (B : Nat) (hB : B ≤ w.heap.size) : OwnB (w.alloc (.cells #[] 5)) B (.slice (some ⟨w.heap.size, 0, none⟩) 0 0) [] :=
  ⟨rfl, .inr ⟨w.heap.size, 0, #[], rfl, hB, heap_alloc_new w _, Nat.zero_le _, Nat.zero_le _, rfl, rfl⟩⟩
theorem OwnB.slice {w : World} {B : Nat} {v : Value} {l : List UInt8} (h : OwnB w B v l) : ∃ a c, v = .slice a l.length c := by
  rcases h.2 with ⟨e, e0⟩ | ⟨g, cap, cur, e, _⟩
  · exact ⟨none, 0, by rw [e, e0]⟩
  · exact ⟨_, _, e⟩
theorem byte_lit (w : World) (x : UInt8) (T : TypeId) : ∀ j u, ([byteV x] : List Value)[j]? = some u → (w.alloc (.cells #[byteV x] T)).cell? ((⟨w.heap.size, 0, none⟩ : Addr).add j) = some u := by
  intro j u hj
  match j, hj with
  | 0, hj => simp at hj; subst hj; simp [Addr.add]
theorem byte_one (x : UInt8) : ∀ u ∈ ([byteV x] : List Value), u.oneCell' = true := by
  intro u hu; simp at hu; subst hu; rfl
theorem OwnB.snoc {w' : World} {B : Nat} {v' : Value} {l : List UInt8} {x : UInt8} (h : w'.ownsRow B 5 1 v' (l.length + 1) (l.map byteV ++ [byteV x])) : OwnB w' B v' (l ++ [x]) := by
  unfold OwnB
  rw [List.length_append, List.length_singleton, List.map_append]
  exact h
/-- Bytes of one's own as a string. -/
theorem OwnB.conv {w : World} {B : Nat} {a : Option Addr} {n c : Nat} {l : List UInt8} (h : OwnB w B (.slice a n c) l) (hl : 0 < l.length) : (convert 22 9 (.slice a n c)).run Try.prog w = .ok (.string (bsL l)) w := by
  rcases h.2 with ⟨_, e⟩ | ⟨g, cap, cur, e, hgB, hh, l1, l2, hs, ht⟩
  · omega
  · simp only [Value.slice.injEq] at e
    obtain ⟨rfl, rfl, rfl⟩ := e
    refine conv_row w ⟨g, 0, none⟩ l c (fun j v hj => ?_)
    have hj2 : (cur.toList.take (l.length * 1))[j]? = some v := by rw [ht]; exact hj
    rw [List.getElem?_take] at hj2
    split at hj2
    · rw [show (⟨g, 0, none⟩ : Addr).add j = ⟨g, j, none⟩ by simp [Addr.add]; intro h; exact h.symm, cell_of_row w g j cur _ _ hh]
      simpa using hj2
    · cases hj2

set_option maxHeartbeats 2000000 in
set_option maxRecDepth 100000 in
theorem implRowsText_any (v : Value) (L : List (List Int)) (w : World) (h : GridAt w v L) : Calls Try.prog 27 #[.agg #[v]] w fun e w' => e = .returned (.string (bsL (rowsL L))) ∧ Below w.heap.size w w' := by
  obtain ⟨a0, c0, rfl⟩ := h.slice
  have ha : Below w.heap.size w (w.alloc (.cells #[.slice a0 L.length c0] 26)) := (Below.refl _ _).alloc (Nat.le_refl _) _
  have hk := h.keep ha
  have HA := Lib.hid ha
  clear ha
  obtain ⟨i0, hi, hz0, hz1, hz2⟩ := info_parts Try.infoB
  go_enter Try.func27, Try.ntmps27
  go_wp2_with fail
  refine (netOf_any _ _ _ hk).mono ?_
  rintro e w1 ⟨rfl, hb1⟩
  have HB1 : Hid (Below w.heap.size w w1) := HA.out.trans (hb1.mono (by simp))
  have hz : w.heap.size ≤ w1.heap.size := HB1.out.size
  have hnb := netBlk_new w1 0 (fun _ => 0)
  clear hb1 hk h HA
  by_cases hG : GraphP L
  · have hzz := hG.1
    have HRE : Hid (rowsL L = rowsTo (adjB L) L.length L.length) := if_pos hG
    have HLT : Hid (∀ i, rowM L i < 65536) := fun i => rowM_lt (by omega) (fun v hv => (hG.2.1 v hv).1) i
    rw [decide_eq_true hG, netArr_yes hG]
    clear hG
    go_wp2_with (refine wpList_store_net rfl 57 (.tmp 3) (.tmp 12) rfl w1.heap.size L.length (rowM L) rfl rfl Try.sizeNet 0 (fun _ => 0) hnb ?_; intro w3 hp; have hn0 := cell_keep ((Below.refl w3.heap.size w3).alloc (Nat.le_refl _) (.cells #[] 5)) hp.net.at.1; have HNet := Lib.hid hp.net.at; have HB3 : Hid (Below w.heap.size w w3) := (HB1.out.alloc hz _).trans (hp.below.mono hz); clear hp)
    clear hn0 hnb
    go_loopw [5, 19] (fun ov i wr => ∃ k : Nat, k ≤ L.length ∧ i = .int .i64 k ∧ OwnB wr w3.heap.size ov (rowsTo (adjB L) L.length k) ∧ Below w3.heap.size w3 wr) (fun _ i _ => L.length - (intOf i).toNat)
    case atStart => exact ⟨0, Nat.zero_le _, rfl, OwnB.empty w3 _ (Nat.le_refl _), (Below.refl _ _).alloc (Nat.le_refl _) _⟩
    case round =>
      obtain ⟨k, hk, rfl, hob, hb⟩ := hrel
      have hnet := HNet.out.keep hb
      have hn0 := hnet.1
      have HOB := Lib.hid hob
      have HB := Lib.hid hb
      have hrl := rowsTo_len (adjB L) L.length k
      have hkm : k * (L.length + 1) ≤ 16 * 17 := Nat.mul_le_mul (by omega) (by omega)
      obtain ⟨X, hX⟩ : ∃ X, rowsTo (adjB L) L.length k = X := ⟨_, rfl⟩
      have HXE := Lib.hid hX
      have HXS : Hid (rowsTo (adjB L) L.length (k + 1) = X ++ lineTo (adjB L) k L.length ++ [10]) := by rw [← hX, List.append_assoc]; rfl
      rw [hX] at HOB hrl
      have hxl : X.length ≤ 272 := by omega
      clear hob hb hnet hrl hX hkm
      by_cases hlt : k < L.length
      · have hltI : (k : Int) < (L.length : Int) := by omega
        go_wp2_with fail
        go_loopw [5, 24] (fun ov i wx => ∃ j : Nat, j ≤ L.length ∧ i = .int .i64 j ∧ OwnB wx w3.heap.size ov (X ++ lineTo (adjB L) k j) ∧ Below w3.heap.size w3 wx) (fun _ i _ => L.length - (intOf i).toNat)
        case atStart => exact ⟨0, Nat.zero_le _, rfl, by rw [lineTo_zero, List.append_nil]; exact HOB.out, HB.out⟩
        case round =>
          clear HOB HB
          rename World => wx
          obtain ⟨j, hj, rfl, hob, hb⟩ := hrel
          obtain ⟨aj, cj, ej⟩ := hob.slice
          subst ej
          have hyl := lineTo_len (adjB L) k j
          have HYS := Lib.hid (lineTo_step (adjB L) k j)
          obtain ⟨Y, hY⟩ : ∃ Y, X ++ lineTo (adjB L) k j = Y := ⟨_, rfl⟩
          have HYE := Lib.hid hY
          have hyy : Y.length ≤ 300 := by rw [← hY, List.length_append]; omega
          rw [hY] at hob ⊢
          have hnet := HNet.out.keep hb
          have hM4 := hnet.2 k (by omega)
          have HOX := Lib.hid hob
          have HBX := Lib.hid hb
          have hzx : w3.heap.size ≤ wx.heap.size := hb.size
          have hk16 : (k : Int) < 16 := by omega
          have hlt4 := HLT.out k
          clear hob hb hnet hyl hY
          by_cases hjl : j < L.length
          · have hjI : (j : Int) < (L.length : Int) := by omega
            have HHB : Hid (hasM (rowM L k) (j : Int) = adjB L k j) := adjB_hasM _ (by omega)
            obtain ⟨E, hE⟩ : ∃ E, adjB L k j = E := ⟨_, rfl⟩
            rw [hE] at HHB HYS
            clear hE
            cases E with
            | true =>
              have HST : Hid (X ++ lineTo (adjB L) k (j + 1) = Y ++ [bitC true]) := by show _ = _; rw [HYS.out, ← List.append_assoc, HYE.out]
              have HLIT := Lib.hid (byte_lit wx (bitC true) 5)
              have HL1 : Hid (byteV (bitC true) = .int .u8 49) := rfl
              go_wp2_with (first | (go_at_call 62; refine (has_any _ _ _ hlt4).mono ?_; rintro e w' ⟨rfl, rfl⟩; rw [HHB.out]) | (at_builtin; refine wpList_append_own _ rfl (.tmp 33) (.tmp 35) 22 rfl w3.heap.size 5 i0 (.int .u8 0) 1 1 Try.underlying22 hi hz0 hz1 hz2 rfl (by decide) _ _ _ rfl (HOX.out.alloc _) ⟨wx.heap.size, 0, none⟩ 1 1 [byteV (bitC true)] rfl rfl HLIT.out (byte_one _) (by unfold maxLen; omega) (by omega) (by simp; omega) ?_; intro v6 w6 hown6 hgrow6 _; have HO6 := Lib.hid (OwnB.snoc hown6); have HB6 : Hid (Below w3.heap.size w3 w6) := (HBX.out.alloc hzx _).grown hgrow6 (by simp; omega) (fun j hj => (HOX.out.lt j hj).1); clear hown6 hgrow6))
              go_roundw
              case rel => exact ⟨j + 1, by omega, by go_num, by rw [HST.out]; exact HO6.out, HB6.out⟩
              case measure => simp [intOf]; omega
            | false =>
              have HST : Hid (X ++ lineTo (adjB L) k (j + 1) = Y ++ [bitC false]) := by show _ = _; rw [HYS.out, ← List.append_assoc, HYE.out]
              have HLIT := Lib.hid (byte_lit wx (bitC false) 5)
              go_wp2_with (first | (go_at_call 62; refine (has_any _ _ _ hlt4).mono ?_; rintro e w' ⟨rfl, rfl⟩; rw [HHB.out]) | (at_builtin; refine wpList_append_own _ rfl (.tmp 33) (.tmp 35) 22 rfl w3.heap.size 5 i0 (.int .u8 0) 1 1 Try.underlying22 hi hz0 hz1 hz2 rfl (by decide) _ _ _ rfl (HOX.out.alloc _) ⟨wx.heap.size, 0, none⟩ 1 1 [byteV (bitC false)] rfl rfl HLIT.out (byte_one _) (by unfold maxLen; omega) (by omega) (by simp; omega) ?_; intro v6 w6 hown6 hgrow6 _; have HO6 := Lib.hid (OwnB.snoc hown6); have HB6 : Hid (Below w3.heap.size w3 w6) := (HBX.out.alloc hzx _).grown hgrow6 (by simp; omega) (fun j hj => (HOX.out.lt j hj).1); clear hown6 hgrow6))
              go_roundw
              case rel => exact ⟨j + 1, by omega, by go_num, by rw [HST.out]; exact HO6.out, HB6.out⟩
              case measure => simp [intOf]; omega
          · obtain rfl : j = L.length := by omega
            have HLIT := Lib.hid (byte_lit wx 10 5)
            clear hM4
            go_wp2_with (at_builtin; refine wpList_append_own _ rfl (.tmp 38) (.tmp 39) 22 rfl w3.heap.size 5 i0 (.int .u8 0) 1 1 Try.underlying22 hi hz0 hz1 hz2 rfl (by decide) _ _ _ rfl (HOX.out.alloc _) ⟨wx.heap.size, 0, none⟩ 1 1 [byteV 10] rfl rfl HLIT.out (byte_one _) (by unfold maxLen; omega) (by omega) (by simp; omega) ?_; intro v6 w6 hown6 hgrow6 _; have HO6 := Lib.hid (OwnB.snoc hown6); have HB6 : Hid (Below w3.heap.size w3 w6) := (HBX.out.alloc hzx _).grown hgrow6 (by simp; omega) (fun j hj => (HOX.out.lt j hj).1); clear hown6 hgrow6)
            go_roundw
            case rel => exact ⟨k + 1, by omega, by go_num, by rw [HXS.out, HYE.out]; exact HO6.out, HB6.out⟩
            case measure => simp [intOf]; omega
      · obtain rfl : k = L.length := by omega
        obtain ⟨aj, cj, ej⟩ := HOB.out.slice
        subst ej
        have hpos : 0 < X.length := by rw [← HXE.out, rowsTo_len]; exact Nat.mul_pos (by omega) (by omega)
        have hcv := HOB.out.conv hpos
        clear hn0
        go_wp2
        go_ret
        exact ⟨by rw [HRE.out, HXE.out]; rfl, HB3.out.trans (HB.out.mono HB3.out.size)⟩
  · rw [decide_eq_false hG, netArr_no hG]
    have HF : Hid (rowsL L = []) := if_neg hG
    clear hG
    go_wp2_with (refine wpList_store_net rfl 57 (.tmp 3) (.tmp 12) rfl w1.heap.size 0 (fun _ => 0) rfl rfl Try.sizeNet 0 (fun _ => 0) hnb ?_; intro w3 hp; have HB3 : Hid (Below w.heap.size w w3) := (HB1.out.alloc hz _).trans (hp.below.mono hz); clear hp)
    go_ret
    exact ⟨by rw [HF.out]; rfl, HB3.out⟩

end Go.Proofs.Ytgeifbgjfbfcfaa
