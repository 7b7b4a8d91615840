/- Words for strings; walks: the model's decimal text of a number. -/
import Derived.Test.YtojbaepcflkgeaaDoorCO1
import Derived.Laws.Concat
import Derived.Laws.BytesString
import Derived.Laws.Strings
import Derived.Laws.Strings2
import Derived.Laws.Strings3

namespace Go.Proofs.YtojbaepcflkgeaaDoor
open Go.RowKit

/-- A string by its bytes. -/
def bsL (l : List UInt8) : ByteArray := ⟨l.toArray⟩
theorem bsL_app (x y : List UInt8) : bsL x ++ bsL y = bsL (x ++ y) := ByteArray.mk_append_mk x y
theorem bsL_size (l : List UInt8) : (bsL l).size = l.length := by simp [bsL, ByteArray.size]
theorem bsL_list (l : List UInt8) : (bsL l).toList = l := ByteArray.toList_mk l
theorem bsL_empty (l : List UInt8) : (bsL l).toList.isEmpty = l.isEmpty := by rw [bsL_list]
theorem bsL_inj {x y : List UInt8} (h : bsL x = bsL y) : x = y := by
  unfold bsL at h
  simp only [ByteArray.mk.injEq] at h
  have := congrArg Array.toList h
  simpa using this
/-- A digit. -/
def dgt (n : Nat) : UInt8 := UInt8.ofNat (48 + n)
theorem dgt_nat {n : Nat} (h : n < 10) : (dgt n).toNat = 48 + n := by
  unfold dgt
  rw [UInt8.toNat_ofNat']
  omega
/-- The decimal text of a number. -/
def dgs (n : Nat) : List UInt8 := if _h : n < 10 then [dgt n] else dgs (n / 10) ++ [dgt (n % 10)]
termination_by n
decreasing_by omega
theorem dgs_one {n : Nat} (h : n < 10) : dgs n = [dgt n] := by rw [dgs]; simp [h]
theorem dgs_more {n : Nat} (h : ¬ n < 10) : dgs n = dgs (n / 10) ++ [dgt (n % 10)] := by rw [dgs]; simp [h]
theorem dgs_len : ∀ (k n : Nat), n < 10 ^ k → 0 < k → (dgs n).length ≤ k := by
  intro k
  induction k with
  | zero => intro n _ h; omega
  | succ k ih =>
    intro n hn _
    by_cases h : n < 10
    · rw [dgs_one h]; simp
    · rw [dgs_more h, List.length_append, List.length_singleton]
      have hk : 0 < k := by
        rcases Nat.eq_zero_or_pos k with e | e
        · subst e; simp at hn; omega
        · exact e
      have := ih (n / 10) (by rw [Nat.pow_succ] at hn; omega) hk
      omega
/-- What is left to be put ahead of t. -/
def IntP (N m : Nat) (t : List UInt8) : Prop := (t = [] ∧ m = N) ∨ (t ≠ [] ∧ (if m = 0 then t else dgs m ++ t) = dgs N)
theorem IntP.step {N m : Nat} {t : List UInt8} (h : IntP N m t) (hm : t = [] ∨ m ≠ 0) : IntP N (m / 10) (dgt (m % 10) :: t) := by
  refine .inr ⟨by simp, ?_⟩
  have e : (if m / 10 = 0 then dgt (m % 10) :: t else dgs (m / 10) ++ dgt (m % 10) :: t) = dgs m ++ t := by
    by_cases h0 : m < 10
    · rw [if_pos (by omega), dgs_one h0, Nat.mod_eq_of_lt h0]; rfl
    · rw [if_neg (by omega), dgs_more h0]; simp
  rw [e]
  rcases h with ⟨rfl, rfl⟩ | ⟨h1, h2⟩
  · simp
  · have : m ≠ 0 := hm.elim (fun h => absurd h h1) id
    rwa [if_neg this] at h2

theorem IntP.len {N m : Nat} {t : List UInt8} (h : IntP N m t) (hN : N < 1000000000) : t.length ≤ 9 := by
  rcases h with ⟨rfl, _⟩ | ⟨_, h⟩
  · simp
  · have hl := dgs_len 9 N (by omega) (by omega)
    rw [← h] at hl
    split at hl
    · exact hl
    · rw [List.length_append] at hl; omega
theorem fold_bytes : ∀ (l : List UInt8) (b : List UInt8), (l.map (fun x : UInt8 => (x.toNat : Int))).foldl (fun r n => r.push (UInt8.ofNat n.toNat)) (bsL b) = bsL (b ++ l) := by
  intro l
  induction l with
  | nil => intro b; simp
  | cons x t ih =>
    intro b
    rw [List.map_cons, List.foldl_cons]
    have e : (bsL b).push (UInt8.ofNat ((x.toNat : Int)).toNat) = bsL (b ++ [x]) := by
      simp [bsL, ByteArray.push]
    rw [e, ih]
    simp
/-- Bytes that lie in a row, as a string. -/
theorem conv_row (w : World) (a : Addr) (l : List UInt8) (c : Nat) (h : ∀ j v, (l.map (fun x : UInt8 => Value.int .u8 (x.toNat : Int)))[j]? = some v → w.cell? (a.add j) = some v) :
    (convert 28 9 (.slice (some a) l.length c)).run Tryd.prog w = .ok (.string (bsL l)) w := by
  rw [run_convert_bytes_string w 28 9 5 (some a) l.length c Tryd.underlying28 Tryd.underlying5 Tryd.underlying9]
  have hl := run_loadCells_list (P := Tryd.prog) w a (l.map (fun x : UInt8 => Value.int .u8 (x.toNat : Int))) h
  have := run_bytesToString (P := Tryd.prog) w a l.length c (l.map (fun x : UInt8 => (x.toNat : Int))) (by simpa [List.map_map, Function.comp_def] using hl)
  rw [this]
  have e := fold_bytes l []
  rw [List.nil_append] at e
  exact congrArg (fun b => Result.ok (Value.string b) w) e
theorem conv_one (w : World) (x : UInt8) (T : TypeId) : (convert 28 9 (.slice (some ⟨w.heap.size, 0, none⟩) 1 1)).run Tryd.prog (w.alloc (.cells #[.int .u8 (x.toNat : Int)] T)) = .ok (.string (bsL [x])) (w.alloc (.cells #[.int .u8 (x.toNat : Int)] T)) := by
  refine conv_row _ ⟨w.heap.size, 0, none⟩ [x] 1 (fun j v hj => ?_)
  match j, hj with
  | 0, hj => simp at hj; subst hj; simp [Addr.add]
/-- Is a string empty? -/
def strN : Value → Nat
  | .string b => if b.size = 0 then 1 else 0
  | _ => 0
theorem strN_nil : strN (.string (bsL [])) = 1 := rfl
theorem strN_cons (x : UInt8) (t : List UInt8) : strN (.string (bsL (x :: t))) = 0 := by simp [strN, bsL_size]

set_option maxHeartbeats 1000000 in
set_option maxRecDepth 100000 in
theorem l1Int_any (N : Nat) (w : World) (hN : N < 1000000000) : Calls Tryd.prog 28 #[.int .i64 (N : Int)] w fun e w' => e = .returned (.string (bsL (dgs N))) ∧ Below w.heap.size w w' := by
  have e0 : (.string { data := #[] } : Value) = .string (bsL []) := rfl
  have q0 : decide ((N : Int) < 0) = false := decide_eq_false (by omega)
  go_enter Tryd.func28, Tryd.ntmps28
  go_wp2_with fail
  go_loopw [0, 3] (fun nv sv wr => ∃ m t, nv = .int .i64 ((m : Nat) : Int) ∧ sv = .string (bsL t) ∧ m ≤ N ∧ IntP N m t ∧ Below w.heap.size w wr) (fun nv sv _ => strN sv + (intOf nv).toNat)
  case atStart => exact ⟨N, [], rfl, rfl, Nat.le_refl _, .inl ⟨rfl, rfl⟩, Below.refl _ _⟩
  case round =>
    obtain ⟨m, t, rfl, rfl, hm, hp, hb⟩ := hrel
    have hlen := hp.len hN
    have HP := Lib.hid hp
    have HB := Lib.hid hb
    clear hp hb
    by_cases hgo : t = [] ∨ m ≠ 0
    · have HST := Lib.hid (HP.out.step hgo)
      have hm10 : ((m : Int) % 10).toNat = m % 10 := by omega
      have hlt : (m : Int) % 10 < 10 := by omega
      have hge : 0 ≤ (m : Int) % 10 := by omega
      have hcv : (convert 28 9 (.slice (some ⟨wr.heap.size, 0, none⟩) 1 1)).run Tryd.prog (wr.alloc (.cells #[.int .u8 (48 + (m : Int) % 10)] 5)) = .ok (.string (bsL [dgt (m % 10)])) (wr.alloc (.cells #[.int .u8 (48 + (m : Int) % 10)] 5)) := by
        have := conv_one wr (dgt (m % 10)) 5
        rw [dgt_nat (show m % 10 < 10 by omega), show ((48 + m % 10 : Nat) : Int) = 48 + (m : Int) % 10 by omega] at this
        exact this
      have hsz : ¬ (bsL [dgt (m % 10)]).size + (bsL t).size > 9223372036854775807 := by rw [bsL_size, bsL_size]; simp; omega
      rcases Classical.em (t = []) with ht | ht
      case' inl =>
        subst ht
        have hs : (bsL []).toList.isEmpty = true := by rw [bsL_empty]; rfl
      case' inr =>
        have hs : (bsL t).toList.isEmpty = false := by rw [bsL_empty]; simpa using ht
        have hm0 : ((m : Int) != 0) = true := by rw [bne_iff_ne]; rcases hgo with e | e; exact absurd e ht; omega
        have hmp : 0 < m := by rcases hgo with e | e; exact absurd e ht; omega
        clear ht
      all_goals (
        clear hgo hm10
        go_wp2
        go_roundw
        case rel => exact ⟨m / 10, dgt (m % 10) :: _, by go_num, by rw [bsL_app]; rfl, by omega, HST.out, HB.out.alloc HB.out.size _⟩
        case measure =>
          have e1 : ∀ t, strN (.string (bsL [dgt (m % 10)] ++ bsL t)) = 0 := fun t => by rw [bsL_app]; exact strN_cons _ _
          have e2 : strN (.string (bsL [])) = 1 := rfl
          simp only [e1, e2, intOf]
          omega)
    · have ht : t ≠ [] := fun e => hgo (.inl e)
      obtain rfl : m = 0 := by rcases Nat.eq_zero_or_pos m with e | e; exact e; exact absurd (.inr (by omega)) hgo
      have HF : Hid (t = dgs N) := by
        rcases HP.out with ⟨e, _⟩ | ⟨_, h⟩
        · exact absurd e ht
        · rw [if_pos rfl] at h; exact h
      have hs : (bsL t).toList.isEmpty = false := by rw [bsL_empty]; simpa using ht
      clear ht hgo
      go_wp2
      go_ret
      exact ⟨by rw [HF.out]; rfl, HB.out⟩

end Go.Proofs.YtojbaepcflkgeaaDoor
