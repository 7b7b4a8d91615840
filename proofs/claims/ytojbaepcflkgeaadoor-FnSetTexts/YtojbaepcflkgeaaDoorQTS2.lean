/- The texts TS2, TS3, joined. -/
import Derived.Test.YtojbaepcflkgeaaDoorTS1
import Derived.Test.YtojbaepcflkgeaaDoorQST1
import Derived.Test.YtojbaepcflkgeaaDoorPuLay
import Derived.Lib.AppendIntMem
import Derived.Lib.ItoaMem
import Derived.Lib.OwnBridge
import Derived.WalkSmall

/- Walks: the model's numbers read. -/
namespace Go.Proofs.YtojbaepcflkgeaaDoor
open Go.RowKit

/-- The number that a word's digits write. -/
def natV (s : List UInt8) : Nat := s.foldl (fun a c => a * 10 + (c.toNat - 48)) 0
def dgB (c : UInt8) : Bool := decide (48 ≤ c.toNat) && decide (c.toNat ≤ 57)
theorem natV_snoc (s : List UInt8) (c : UInt8) : natV (s ++ [c]) = natV s * 10 + (c.toNat - 48) := by simp [natV, List.foldl_append]
theorem natV_lt (s : List UInt8) : ∀ (k : Nat), k ≤ s.length → (∀ c ∈ s.take k, dgB c = true) → natV (s.take k) < 10 ^ k := by
  intro k
  induction k with
  | zero => intro _ _; simp [natV]
  | succ k ih =>
    intro hk h
    have e : s.take (k + 1) = s.take k ++ [s[k]] := List.take_succ_eq_append_getElem (by omega)
    rw [e] at h ⊢
    have h1 := ih (by omega) (fun x hx => h x (List.mem_append_left _ hx))
    have h2 := h s[k] (List.mem_append_right _ (List.mem_singleton.2 rfl))
    unfold dgB at h2
    rw [Bool.and_eq_true, decide_eq_true_iff, decide_eq_true_iff] at h2
    rw [natV_snoc, Nat.pow_succ]
    omega
/-- A word that is accepted: one digit to nine, no leading zero. -/
def rdB (s : List UInt8) : Bool := decide (1 ≤ s.length) && decide (s.length ≤ 9) && !(decide (s.head? = some 48) && decide (1 < s.length)) && s.all dgB
theorem rd_dgs {n : Nat} (h : n < 17) : rdB (dgs n) = true ∧ natV (dgs n) = n := by
  by_cases h1 : n < 10
  · rw [dgs_one h1]
    have : n = 0 ∨ n = 1 ∨ n = 2 ∨ n = 3 ∨ n = 4 ∨ n = 5 ∨ n = 6 ∨ n = 7 ∨ n = 8 ∨ n = 9 := by omega
    rcases this with rfl | rfl | rfl | rfl | rfl | rfl | rfl | rfl | rfl | rfl <;> decide
  · rw [dgs_more h1, dgs_one (n := n / 10) (by omega)]
    have : n = 10 ∨ n = 11 ∨ n = 12 ∨ n = 13 ∨ n = 14 ∨ n = 15 ∨ n = 16 := by omega
    rcases this with rfl | rfl | rfl | rfl | rfl | rfl | rfl <;> decide

set_option maxHeartbeats 2000000 in
set_option maxRecDepth 100000 in
theorem l1Read_no (s : List UInt8) (w : World) (hs : s.length ≤ 1048576) (h : s.length < 1 ∨ 9 < s.length ∨ (s.head? = some 48 ∧ 1 < s.length)) : Calls Tryd.prog 17 #[.string (bsL s)] w fun e w' => e = .returned (.tuple #[.int .i64 0, .bool false]) ∧ w = w' := by
  have hsz := bsL_size s
  have hsI : (s.length : Int) ≤ 1048576 := by omega
  by_cases h1 : s.length < 1
  · have hI : (s.length : Int) < 1 := by omega
    go_enter Tryd.func17, Tryd.ntmps17
    go_wp2
    go_ret2
    exact ⟨rfl, rfl⟩
  by_cases h9 : 9 < s.length
  · have hI : ¬ (s.length : Int) < 1 := by omega
    have hI9 : (9 : Int) < (s.length : Int) := by omega
    go_enter Tryd.func17, Tryd.ntmps17
    go_wp2
    go_ret2
    exact ⟨rfl, rfl⟩
  have hI1 : ¬ (s.length : Int) < 1 := by omega
  have hI9 : ¬ (9 : Int) < (s.length : Int) := by omega
  have h0 : 0 < s.length := by omega
  obtain ⟨hhd, hl⟩ : s.head? = some 48 ∧ 1 < s.length := by
    rcases h with h | h | h
    · exact absurd h h1
    · exact absurd h h9
    · exact h
  have hix0 : ∀ w, (Instr.index 9 (.string (bsL s)) (.int .i64 0)).run Tryd.prog w = .ok (.int .u8 48) w := fun w => by
    have hx : s[0] = 48 := by rw [List.head?_eq_getElem?, List.getElem?_eq_getElem h0] at hhd; simpa using hhd
    have := idx_bytes s 0 h0 w
    rw [hx] at this
    exact this
  have hlI : (1 : Int) < (s.length : Int) := by omega
  clear h hhd
  go_enter Tryd.func17, Tryd.ntmps17
  go_wp2
  go_ret2
  exact ⟨rfl, rfl⟩

theorem natV_take {s : List UInt8} {k : Nat} (h : k < s.length) : natV (s.take (k + 1)) = natV (s.take k) * 10 + (s[k].toNat - 48) := by
  rw [List.take_succ_eq_append_getElem h, natV_snoc]

set_option maxHeartbeats 4000000 in
set_option maxRecDepth 100000 in
theorem l1Read_go (s : List UInt8) (w : World) (p : Bool) (h1 : 1 ≤ s.length) (h9 : s.length ≤ 9) (hp : ∀ w, ((Instr.index 9 (.string (bsL s)) (.int .i64 0)).run Tryd.prog w = .ok (.int .u8 (s[0].toNat : Int)) w)) (hq : ((s[0].toNat : Int) == 48) = p) (hn : p = true → ¬ 1 < s.length) (A : Bool) (hA : s.all dgB = A) :
    Calls Tryd.prog 17 #[.string (bsL s)] w fun e w' => (A = true → e = .returned (.tuple #[.int .i64 (natV s : Int), .bool true])) ∧ (A = false → e = .returned (.tuple #[.int .i64 0, .bool false])) ∧ w = w' := by
  have hsz := bsL_size s
  have hI1 : ¬ (s.length : Int) < 1 := by omega
  have hI9 : ¬ (9 : Int) < (s.length : Int) := by omega
  have hsI : (s.length : Int) ≤ 9 := by omega
  have hl1 : p = true → decide ((1 : Int) < (s.length : Int)) = false := fun h => by rw [decide_eq_false_iff_not]; have := hn h; omega
  obtain ⟨x, hx⟩ : ∃ x, (s[0].toNat : Int) = x := ⟨_, rfl⟩
  rw [hx] at hp hq
  have HA := Lib.hid hA
  clear hx hn hA
  cases p with
  | true =>
    have hl2 := hl1 rfl
    clear hl1
    go_enter Tryd.func17, Tryd.ntmps17
    go_wp2_with fail
    go_loopw [4, 5] (fun nv i wr => ∃ (k n : Nat), k ≤ s.length ∧ i = .int .i64 k ∧ nv = .int .i64 n ∧ n = natV (s.take k) ∧ (∀ c ∈ s.take k, dgB c = true) ∧ wr = w) (fun _ i _ => s.length - (intOf i).toNat)
    case atStart => exact ⟨0, 0, Nat.zero_le _, rfl, rfl, by simp [natV], by simp, rfl⟩
    case round =>
      obtain ⟨k, n, hk, rfl, rfl, hnv, hall, rfl⟩ := hrel
      have hb := natV_lt s k hk hall
      rw [← hnv] at hb
      have hb9 : n < 10 ^ 9 := Nat.lt_of_lt_of_le hb (Nat.pow_le_pow_right (by omega) (by omega))
      have hbI : (n : Int) < 1000000000 := by omega
      have HNV := Lib.hid hnv
      have HALL := Lib.hid hall
      clear hnv hall hb hb9
      by_cases hlt : k < s.length
      · have hltI : (k : Int) < (s.length : Int) := by omega
        have hix : ∀ w, (Instr.index 9 (.string (bsL s)) (.int .i64 (k : Int))).run Tryd.prog w = .ok (.int .u8 (s[k].toNat : Int)) w := fun w => idx_bytes s k hlt w
        have hnx := natV_take hlt
        obtain ⟨y, hy⟩ : ∃ y, s[k] = y := ⟨_, rfl⟩
        rw [hy] at hix hnx
        have HY := Lib.hid hy
        have HNX := Lib.hid hnx
        have hy256 := y.toNat_lt
        obtain ⟨z, hz⟩ : ∃ z : Nat, y.toNat = z := ⟨_, rfl⟩
        rw [hz] at hix hy256
        have HZ := Lib.hid hz
        clear hy hz hnx
        by_cases hlo : z < 48
        · have hno : A = false := by
            rw [← HA.out]
            rw [List.all_eq_false]
            exact ⟨s[k], List.getElem_mem hlt, by rw [HY.out]; unfold dgB; rw [HZ.out]; simp; omega⟩
          have HNO := Lib.hid hno
          have q1 : (z : Int) < 48 := by omega
          clear hno
          go_wp2
          go_ret2
          exact ⟨fun h => absurd h (by rw [HNO.out]; exact Bool.false_ne_true), fun _ => rfl, rfl⟩
        · by_cases hhi : 57 < z
          · have hno : A = false := by
              rw [← HA.out]
              rw [List.all_eq_false]
              exact ⟨s[k], List.getElem_mem hlt, by rw [HY.out]; unfold dgB; rw [HZ.out]; simp; omega⟩
            have HNO := Lib.hid hno
            have q1 : ¬ (z : Int) < 48 := by omega
            have q2 : (57 : Int) < (z : Int) := by omega
            clear hno
            go_wp2
            go_ret2
            exact ⟨fun h => absurd h (by rw [HNO.out]; exact Bool.false_ne_true), fun _ => rfl, rfl⟩
          · have q1 : ¬ (z : Int) < 48 := by omega
            have q2 : ¬ (57 : Int) < (z : Int) := by omega
            obtain ⟨d, hd⟩ : ∃ d : Nat, (z : Int) - 48 = (d : Int) := ⟨z - 48, by omega⟩
            have hd9 : (d : Int) ≤ 9 := by omega
            have HD : Hid (d = z - 48) := by show _ = _; omega
            go_wp2
            go_roundw
            case rel =>
              refine ⟨k + 1, n * 10 + d, by omega, by go_num, by go_num, by rw [HNX.out, HZ.out, ← HNV.out, HD.out], fun c hc => ?_, by first | rfl | trivial⟩
              rw [List.take_succ_eq_append_getElem hlt, List.mem_append, List.mem_singleton] at hc
              rcases hc with hc | rfl
              · exact HALL.out c hc
              · rw [HY.out]; unfold dgB; rw [HZ.out, Bool.and_eq_true, decide_eq_true_iff, decide_eq_true_iff]; omega
            case measure => simp [intOf]; omega
      · obtain rfl : k = s.length := by omega
        have hyes : A = true := by
          rw [← HA.out]
          rw [List.all_eq_true]
          have h := HALL.out
          rw [List.take_length] at h
          exact h
        have HYES := Lib.hid hyes
        clear hyes
        go_wp2
        go_ret2
        exact ⟨fun _ => by rw [HNV.out, List.take_length]; rfl, fun h => absurd h (by rw [HYES.out]; exact fun e => Bool.noConfusion e), rfl⟩
  | false =>
    clear hl1
    go_enter Tryd.func17, Tryd.ntmps17
    go_wp2_with fail
    go_loopw [4, 5] (fun nv i wr => ∃ (k n : Nat), k ≤ s.length ∧ i = .int .i64 k ∧ nv = .int .i64 n ∧ n = natV (s.take k) ∧ (∀ c ∈ s.take k, dgB c = true) ∧ wr = w) (fun _ i _ => s.length - (intOf i).toNat)
    case atStart => exact ⟨0, 0, Nat.zero_le _, rfl, rfl, by simp [natV], by simp, rfl⟩
    case round =>
      obtain ⟨k, n, hk, rfl, rfl, hnv, hall, rfl⟩ := hrel
      have hb := natV_lt s k hk hall
      rw [← hnv] at hb
      have hb9 : n < 10 ^ 9 := Nat.lt_of_lt_of_le hb (Nat.pow_le_pow_right (by omega) (by omega))
      have hbI : (n : Int) < 1000000000 := by omega
      have HNV := Lib.hid hnv
      have HALL := Lib.hid hall
      clear hnv hall hb hb9
      by_cases hlt : k < s.length
      · have hltI : (k : Int) < (s.length : Int) := by omega
        have hix : ∀ w, (Instr.index 9 (.string (bsL s)) (.int .i64 (k : Int))).run Tryd.prog w = .ok (.int .u8 (s[k].toNat : Int)) w := fun w => idx_bytes s k hlt w
        have hnx := natV_take hlt
        obtain ⟨y, hy⟩ : ∃ y, s[k] = y := ⟨_, rfl⟩
        rw [hy] at hix hnx
        have HY := Lib.hid hy
        have HNX := Lib.hid hnx
        have hy256 := y.toNat_lt
        obtain ⟨z, hz⟩ : ∃ z : Nat, y.toNat = z := ⟨_, rfl⟩
        rw [hz] at hix hy256
        have HZ := Lib.hid hz
        clear hy hz hnx
        by_cases hlo : z < 48
        · have hno : A = false := by
            rw [← HA.out]
            rw [List.all_eq_false]
            exact ⟨s[k], List.getElem_mem hlt, by rw [HY.out]; unfold dgB; rw [HZ.out]; simp; omega⟩
          have HNO := Lib.hid hno
          have q1 : (z : Int) < 48 := by omega
          clear hno
          go_wp2
          go_ret2
          exact ⟨fun h => absurd h (by rw [HNO.out]; exact Bool.false_ne_true), fun _ => rfl, rfl⟩
        · by_cases hhi : 57 < z
          · have hno : A = false := by
              rw [← HA.out]
              rw [List.all_eq_false]
              exact ⟨s[k], List.getElem_mem hlt, by rw [HY.out]; unfold dgB; rw [HZ.out]; simp; omega⟩
            have HNO := Lib.hid hno
            have q1 : ¬ (z : Int) < 48 := by omega
            have q2 : (57 : Int) < (z : Int) := by omega
            clear hno
            go_wp2
            go_ret2
            exact ⟨fun h => absurd h (by rw [HNO.out]; exact Bool.false_ne_true), fun _ => rfl, rfl⟩
          · have q1 : ¬ (z : Int) < 48 := by omega
            have q2 : ¬ (57 : Int) < (z : Int) := by omega
            obtain ⟨d, hd⟩ : ∃ d : Nat, (z : Int) - 48 = (d : Int) := ⟨z - 48, by omega⟩
            have hd9 : (d : Int) ≤ 9 := by omega
            have HD : Hid (d = z - 48) := by show _ = _; omega
            go_wp2
            go_roundw
            case rel =>
              refine ⟨k + 1, n * 10 + d, by omega, by go_num, by go_num, by rw [HNX.out, HZ.out, ← HNV.out, HD.out], fun c hc => ?_, by first | rfl | trivial⟩
              rw [List.take_succ_eq_append_getElem hlt, List.mem_append, List.mem_singleton] at hc
              rcases hc with hc | rfl
              · exact HALL.out c hc
              · rw [HY.out]; unfold dgB; rw [HZ.out, Bool.and_eq_true, decide_eq_true_iff, decide_eq_true_iff]; omega
            case measure => simp [intOf]; omega
      · obtain rfl : k = s.length := by omega
        have hyes : A = true := by
          rw [← HA.out]
          rw [List.all_eq_true]
          have h := HALL.out
          rw [List.take_length] at h
          exact h
        have HYES := Lib.hid hyes
        clear hyes
        go_wp2
        go_ret2
        exact ⟨fun _ => by rw [HNV.out, List.take_length]; rfl, fun h => absurd h (by rw [HYES.out]; exact fun e => Bool.noConfusion e), rfl⟩

theorem l1Read_any (s : List UInt8) (w : World) (hs : s.length ≤ 1048576) : Calls Tryd.prog 17 #[.string (bsL s)] w fun e w' => e = .returned (.tuple #[.int .i64 (if rdB s then (natV s : Int) else 0), .bool (rdB s)]) ∧ w = w' := by
  by_cases h : s.length < 1 ∨ 9 < s.length ∨ (s.head? = some 48 ∧ 1 < s.length)
  · have hr : rdB s = false := by
      unfold rdB
      rcases h with h | h | ⟨h, h'⟩
      · rw [decide_eq_false (by omega)]; rfl
      · rw [decide_eq_false (by omega : ¬ s.length ≤ 9), Bool.and_false]; rfl
      · rw [decide_eq_true h, decide_eq_true h']; simp
    refine (l1Read_no s w hs h).mono ?_
    rintro e w' ⟨rfl, h2⟩
    exact ⟨by rw [hr]; rfl, h2⟩
  · rw [not_or, not_or] at h
    obtain ⟨h1, h9, hz⟩ := h
    have h0 : 0 < s.length := by omega
    have hhd : s.head? = some s[0] := by rw [List.head?_eq_getElem?, List.getElem?_eq_getElem h0]
    have hr : rdB s = s.all dgB := by
      unfold rdB
      rw [decide_eq_true (by omega : 1 ≤ s.length), decide_eq_true (by omega : s.length ≤ 9)]
      have : (decide (s.head? = some (48 : UInt8)) && decide (1 < s.length)) = false := by
        rw [← Bool.decide_and, decide_eq_false_iff_not]; exact hz
      rw [this]; rfl
    refine (l1Read_go s w _ (by omega) (by omega) (fun w => idx_bytes s 0 h0 w) rfl (fun hp hl => ?_) _ rfl).mono ?_
    · refine hz ⟨?_, hl⟩
      rw [hhd]
      rw [beq_iff_eq] at hp
      congr 1
      exact UInt8.toNat_inj.1 (by have : (48 : UInt8).toNat = 48 := by decide
                                  omega)
    · rintro e w' ⟨ha, hb, rfl⟩
      rw [hr]
      cases hc : s.all dgB with
      | true => exact ⟨by rw [ha hc]; rfl, rfl⟩
      | false => exact ⟨by rw [hb hc]; rfl, rfl⟩

end Go.Proofs.YtojbaepcflkgeaaDoor

/- Walks: the library's numeral of a number; the program's number of a word. -/
namespace Go.Proofs.YtojbaepcflkgeaaDoor
open Go.RowKit Go.Shelf

/-- What the library's variables hold: the powers of ten, and some error each. -/
structure VarsAt (w : World) : Prop where
  one : ∃ m : Int, w.cell? ⟨0, 0, none⟩ = some (.int .i64 m)
  syn : ∃ te pe, w.cell? ⟨2, 0, none⟩ = some (.iface te pe)
  rng : ∃ te pe, w.cell? ⟨3, 0, none⟩ = some (.iface te pe)
  pow : Lib.TabIs Tryd.prog w "internal/strconv.uint64pow10" .u64 Lib.pow10Tab
  low : ∀ g, Tryd.prog.globalNamed "internal/strconv.uint64pow10" = some g → g < w.heap.size
theorem VarsAt.keep {w w' : World} (h : VarsAt w) (hb : Below w.heap.size w w') : VarsAt w' := by
  obtain ⟨⟨m, h1⟩, ⟨a, b, h2⟩, ⟨c, d, h3⟩, h4, h5⟩ := h
  refine ⟨⟨m, cell_keep hb h1⟩, ⟨a, b, cell_keep hb h2⟩, ⟨c, d, cell_keep hb h3⟩, ?_, fun g hg => Nat.lt_of_lt_of_le (h5 g hg) hb.size⟩
  cases hg : Tryd.prog.globalNamed "internal/strconv.uint64pow10" with
  | none =>
    unfold Lib.TabIs World.var? at h4
    rw [hg] at h4
    simp at h4
  | some g => exact var?_below hb hg (h5 g hg) h4

theorem dgs_dec : ∀ (n : Nat), Lib.decDigits n = dgs n := by
  intro n
  induction n using Nat.strongRecOn with
  | ind n ih =>
    rw [Lib.decDigits, dgs]
    by_cases h : n < 10
    · rw [dif_pos h, dif_pos h]; rfl
    · rw [dif_neg h, dif_neg h, ih _ (by omega)]; rfl

set_option maxHeartbeats 4000000 in
set_option maxRecDepth 100000 in
theorem fmtUint_in (u : Nat) (w : World) (hu : u < 4294967296) (hV : VarsAt w) : Calls Tryd.prog 59 #[.int .u64 (u : Int), .int .i64 10] w fun e w' => e = .returned (.string (bsL (dgs u))) ∧ Below w.heap.size w w' := by
  by_cases hs : u < 100
  · have hsI : (u : Int) < 100 := by omega
    have hsm := fun W => Tryd.internal_strconv_small u hs W
    rw [dgs_dec] at hsm
    have HS := Lib.hid hsm
    clear hsm
    go_enter Tryd.func59, Tryd.ntmps59
    go_wp2_with fail
    refine (HS.out _).mono ?_
    rintro e w' ⟨rfl, rfl⟩
    go_wp2
    go_ret
    exact ⟨rfl, Below.refl _ _⟩
  · have hsI : ¬ (u : Int) < 100 := by omega
    have hu1 : 1 ≤ u := by omega
    have hu64 : u < 18446744073709551616 := by omega
    have hnd : Lib.nDigits u ≤ 20 := by have := Lib.numDigits_eq u hu1 hu64; split at this <;> omega
    have hH := Lib.holds_zero0 w 90 (Lib.nDigits u) (by omega)
    have hf := Tryd.internal_strconv_formatBase10 w.heap.size 0 24 u (Array.replicate (Lib.nDigits u) 0) (w.alloc (.cells Lib.zeros24 90)) hH (by rw [Array.size_replicate]; exact Lib.lt_pow_nDigits u) hu64 (by rw [Array.size_replicate]; omega)
    rw [Array.size_replicate] at hf
    have hd := Tryd.internal_strconv_numDigits u hu1 hu64 (w.alloc (.cells Lib.zeros24 90)) (Lib.tabIs_alloc hV.pow _)
    obtain ⟨N, hN⟩ : ∃ N, Lib.nDigits u = N := ⟨_, rfl⟩
    have HN := Lib.hid hN
    rw [hN] at hf hd hnd
    have hNI : (N : Int) ≤ 20 := by omega
    have HF := Lib.hid hf
    have HD := Lib.hid hd
    have HH := Lib.hid hH
    have hlen : (dgs u).length = N := by rw [← dgs_dec, Lib.decDigits_length, HN.out]
    have HL := Lib.hid hlen
    have hal : Tryd.prog.arrayLen 90 = 24 := by simp [Program.arrayLen, Tryd.underlying90]
    have hsl : ∀ W, (Instr.sliceAt 90 (.pointer (some ⟨w.heap.size, 0, none⟩)) none (some (.int .i64 (N : Int))) none).run Tryd.prog W = .ok (.slice (some ⟨w.heap.size, 0, none⟩) N 24) W := fun W => by
      rw [run_sliceAt_array_h W 90 ⟨w.heap.size, 0, none⟩ (by simp [Program.arrayLen, Program.elem, Tryd.underlying90]) .i64 (N : Int) (by omega) (by rw [hal]; omega)]
      go_simp
    clear hf hd hH hN hV hal hlen
    go_enter Tryd.func59, Tryd.ntmps59
    go_wp2_with fail
    refine HD.out.mono ?_
    rintro e w' ⟨rfl, rfl⟩
    go_wp2_with fail
    refine HF.out.mono ?_
    rintro e w' ⟨rfl, k, v', dk, rfl, hF⟩
    have hcv : (convert 28 9 (.slice (some ⟨w.heap.size, 0, none⟩) N 24)).run Tryd.prog ((Sort.putRow (fun (b : UInt8) => Value.int .u8 (b.toNat : Int)) (w.alloc (.cells Lib.zeros24 90)) w.heap.size 0 dk).drewN k) = .ok (.string (bsL (dgs u))) ((Sort.putRow (fun (b : UInt8) => Value.int .u8 (b.toNat : Int)) (w.alloc (.cells Lib.zeros24 90)) w.heap.size 0 dk).drewN k) := by
      have h := run_convert_bytes_back (P := Tryd.prog) ((Sort.putRow (fun (b : UInt8) => Value.int .u8 (b.toNat : Int)) (w.alloc (.cells Lib.zeros24 90)) w.heap.size 0 dk).drewN k) 28 9 5 ⟨w.heap.size, 0, none⟩ 24 (dgs u) Tryd.underlying28 Tryd.underlying5 Tryd.underlying9 (fun j hj => by
        have hj2 : j < N := by rw [← HL.out]; exact hj
        have hF2 : Lib.FmtInv (Lib.nDigits u) u 0 v' dk := by rw [HN.out]; exact hF
        have hsz : dk.size = N := hF.size
        have e1 : (dgs u)[j] = dk[j]! := by
          have h3 := Lib.row_is_numeral hF2 j (by rw [Lib.decDigits_length, HN.out]; exact hj2)
          rw [← h3]
          congr 1
          exact (dgs_dec u).symm
        rw [e1, Lib.add_plain, World.cell?_drewN]
        exact Sort.cell?_putRow (fun (b : UInt8) => Value.int .u8 (b.toNat : Int)) _ w.heap.size 0 _ dk HH.out (by rw [hsz, Array.size_replicate, HN.out]) j (by rw [hsz]; exact hj2))
      rw [HL.out] at h
      exact h
    have HB : Hid (Below w.heap.size w ((Sort.putRow (fun (b : UInt8) => Value.int .u8 (b.toNat : Int)) (w.alloc (.cells Lib.zeros24 90)) w.heap.size 0 dk).drewN k)) := (Lib.below_putRow (enc := fun (b : UInt8) => Value.int .u8 (b.toNat : Int)) (q := 0) (d := dk) ((Below.refl w.heap.size w).alloc (Nat.le_refl _) (.cells Lib.zeros24 90)) (Nat.le_refl _)).trans (((Drawn.refl _).more k).below _)
    generalize ((Sort.putRow (fun (b : UInt8) => Value.int .u8 (b.toNat : Int)) (w.alloc (.cells Lib.zeros24 90)) w.heap.size 0 dk).drewN k) = W at hcv HB ⊢
    go_wp2
    go_ret
    exact ⟨rfl, HB.out⟩

set_option maxHeartbeats 1000000 in
theorem fmtUint_any (u : Nat) (w : World) (hu : u < 4294967296) (hV : VarsAt w) : Calls Tryd.prog 43 #[.int .u64 (u : Int), .int .i64 10] w fun e w' => e = .returned (.string (bsL (dgs u))) ∧ Below w.heap.size w w' := by
  have HV := Lib.hid hV
  clear hV
  go_enter Tryd.func43, Tryd.ntmps43
  go_wp2_with fail
  refine (fmtUint_in u _ hu HV.out).mono ?_
  rintro e w' ⟨rfl, hb⟩
  have HB := Lib.hid hb
  clear hb
  go_wp2
  go_ret
  exact ⟨rfl, HB.out⟩

theorem parse_le {M : Nat} : ∀ (l : List UInt8) (acc u : Nat), acc ≤ M → Lib.parseUintM M acc l = .ok u → u ≤ M := by
  intro l
  induction l with
  | nil => intro acc u ha h; rw [Lib.parseUintM] at h; injection h with h; omega
  | cons c r ih =>
    intro acc u ha h
    rw [Lib.parseUintM] at h
    split at h
    · split at h
      · cases h
      · split at h
        · cases h
        · exact ih _ _ (by omega) h
    · cases h
theorem parse_lt {l : List UInt8} {u : Nat} (h : Lib.parseUintB 32 l = .ok u) : u < 4294967296 := by
  unfold Lib.parseUintB at h
  split at h
  · cases h
  · have := parse_le l 0 u (by omega) h
    omega
theorem parse_dgs {n : Nat} (h : n < 17) : Lib.parseUintB 32 (dgs n) = .ok n := by
  by_cases h1 : n < 10
  · rw [dgs_one h1]
    have : n = 0 ∨ n = 1 ∨ n = 2 ∨ n = 3 ∨ n = 4 ∨ n = 5 ∨ n = 6 ∨ n = 7 ∨ n = 8 ∨ n = 9 := by omega
    rcases this with rfl | rfl | rfl | rfl | rfl | rfl | rfl | rfl | rfl | rfl <;> decide
  · rw [dgs_more h1, dgs_one (n := n / 10) (by omega)]
    have : n = 10 ∨ n = 11 ∨ n = 12 ∨ n = 13 ∨ n = 14 ∨ n = 15 ∨ n = 16 := by omega
    rcases this with rfl | rfl | rfl | rfl | rfl | rfl | rfl <;> decide
theorem dgs17 {n : Nat} (h : n < 17) : (dgs n).length ≤ 2 := dgs_len 2 n (by omega) (by omega)

/-- What the program makes of a word: some number and a word that it is one; of a small number's numeral that number. -/
def NumGot (x : List UInt8) (w : World) (e : Ending) (w' : World) : Prop :=
  ∃ (v : Int) (b : Bool), e = .returned (.tuple #[.int .i64 v, .bool b]) ∧ I64 v ∧ (∀ n, n < 17 → x = dgs n → v = n ∧ b = true) ∧ (b = true → x ≠ []) ∧ Below w.heap.size w w'
theorem dgs_ne (n : Nat) : dgs n ≠ [] := by
  rw [dgs]
  split <;> simp

set_option maxHeartbeats 4000000 in
set_option maxRecDepth 100000 in
theorem numberOf_any (x : List UInt8) (w : World) (hx : x.length ≤ 1048576) (hV : VarsAt w) : Calls Tryd.prog 31 #[.string (bsL x)] w (NumGot x w) := by
  have hsz := bsL_size x
  have hxI : (x.length : Int) ≤ 1048576 := by omega
  by_cases h9 : 9 < x.length
  · have h9I : (9 : Int) < (x.length : Int) := by omega
    have HP : Hid (∀ W, Below w.heap.size w W → NumGot x w (.returned (.tuple #[.int .i64 0, .bool false])) W) := fun W hb => ⟨0, false, rfl, by unfold I64; omega, fun n hn e => by have := dgs17 hn; rw [← e] at this; omega, fun h => absurd h Bool.false_ne_true, hb⟩
    go_enter Tryd.func31, Tryd.ntmps31
    go_wp2
    go_ret2
    exact HP.out _ (Below.refl _ _)
  have h9I : ¬ (9 : Int) < (x.length : Int) := by omega
  have hdl : (bsL x).data.toList = x := by simp [bsL]
  obtain ⟨⟨te, pe, hS⟩, ⟨tr, pr, hR⟩⟩ := And.intro hV.syn hV.rng
  have HV := Lib.hid hV
  have HSy := Lib.hid hS
  have HRn := Lib.hid hR
  have HSZ := Lib.hid hsz
  have HDL := Lib.hid hdl
  clear hV hS hR hdl
  rcases hpu : Lib.parseUintB 32 x with u | _ | _
  · have hu := parse_lt hpu
    have HC : Hid (∀ W, Calls Tryd.prog 42 #[.string (bsL x), .int .i64 10, .int .i64 32] W fun e w' => e = .returned (.tuple #[.int .u64 u, .nilIface]) ∧ Below W.heap.size W w') := fun W => by
      refine (Tryd.strconv_ParseUint_10_at32_ok (bsL x) (by rw [HSZ.out]; omega) u (by rw [HDL.out]; exact hpu) W).mono ?_
      rintro e w' ⟨rfl, hw⟩
      refine ⟨rfl, ?_⟩
      rcases hw with rfl | rfl
      · exact Below.refl _ _
      · exact Lib.bytesWorld_below _ _ _
    have HPU := Lib.hid hpu
    clear hpu
    go_enter Tryd.func31, Tryd.ntmps31
    go_wp2_with fail
    refine (HC.out _).mono ?_
    rintro e w1 ⟨rfl, hb1⟩
    have HB1 := Lib.hid hb1
    clear hb1
    go_wp2_with fail
    refine (fmtUint_any u _ hu (HV.out.keep HB1.out)).mono ?_
    rintro e w2 ⟨rfl, hb2⟩
    have HB2 : Hid (Below w.heap.size w w2) := HB1.out.trans (hb2.mono HB1.out.size)
    clear hb2
    by_cases he : dgs u = x
    · have hcmp : ((bsL (dgs u)).toList == (bsL x).toList) = true := by rw [bsL_list, bsL_list, he]; simp
      have huI : (u : Int) < 4294967296 := by omega
      have HP : Hid (∀ W, Below w.heap.size w W → NumGot x w (.returned (.tuple #[.int .i64 (u : Int), .bool true])) W) := fun W hb => ⟨u, true, rfl, by unfold I64; omega, fun n hn e => by
        have h2 := parse_dgs hn
        rw [← e, HPU.out] at h2
        injection h2 with h2
        exact ⟨by omega, rfl⟩, fun _ e => dgs_ne u (he.trans e), hb⟩
      clear he
      go_wp2
      go_ret2
      exact HP.out _ HB2.out
    · have hcmp : ((bsL (dgs u)).toList == (bsL x).toList) = false := by rw [bsL_list, bsL_list, beq_eq_false_iff_ne]; exact he
      have HP : Hid (∀ W, Below w.heap.size w W → NumGot x w (.returned (.tuple #[.int .i64 0, .bool false])) W) := fun W hb => ⟨0, false, rfl, by unfold I64; omega, fun n hn e => by
        have h2 := parse_dgs hn
        rw [← e, HPU.out] at h2
        injection h2 with h2
        exact absurd (by rw [h2]; exact e.symm) he, fun h => absurd h Bool.false_ne_true, hb⟩
      clear he
      go_wp2
      go_ret2
      exact HP.out _ HB2.out
  · have HC : Hid (∀ W, VarsAt W → Calls Tryd.prog 42 #[.string (bsL x), .int .i64 10, .int .i64 32] W fun e w' => ∃ t p, e = .returned (.tuple #[.int .u64 0, .iface t p]) ∧ Below W.heap.size W w') := fun W hv => by
      obtain ⟨a, b, hc⟩ := hv.syn
      refine (Any.strconv_ParseUint_10_at32_syntax Tryd.laysPu14 (bsL x) (by rw [HSZ.out]; omega) (by rw [HDL.out]; exact hpu) (.iface a b) W hc (.inr ⟨a, b, rfl⟩)).mono ?_
      rintro e w' ⟨N, rfl, _, _, hb⟩
      exact ⟨_, _, rfl, hb⟩
    have HP : Hid (∀ W, Below w.heap.size w W → NumGot x w (.returned (.tuple #[.int .i64 0, .bool false])) W) := fun W hb => ⟨0, false, rfl, by unfold I64; omega, fun n hn e => (by have h2 := parse_dgs hn; rw [← e, hpu] at h2; exact nomatch h2), fun h => absurd h Bool.false_ne_true, hb⟩
    clear hpu
    go_enter Tryd.func31, Tryd.ntmps31
    go_wp2_with fail
    refine (HC.out _ HV.out).mono ?_
    rintro e w1 ⟨t, p, rfl, hb1⟩
    have HB1 := Lib.hid hb1
    clear hb1
    go_wp2
    go_ret2
    exact HP.out _ HB1.out
  · have HC : Hid (∀ W, VarsAt W → Calls Tryd.prog 42 #[.string (bsL x), .int .i64 10, .int .i64 32] W fun e w' => ∃ t p, e = .returned (.tuple #[.int .u64 4294967295, .iface t p]) ∧ Below W.heap.size W w') := fun W hv => by
      obtain ⟨a, b, hc⟩ := hv.rng
      refine (Any.strconv_ParseUint_10_at32_range Tryd.laysPu14 (bsL x) (by rw [HSZ.out]; omega) (by rw [HDL.out]; exact hpu) (.iface a b) W hc (.inr ⟨a, b, rfl⟩)).mono ?_
      rintro e w' ⟨N, rfl, _, _, hb⟩
      exact ⟨_, _, rfl, hb⟩
    have HP : Hid (∀ W, Below w.heap.size w W → NumGot x w (.returned (.tuple #[.int .i64 0, .bool false])) W) := fun W hb => ⟨0, false, rfl, by unfold I64; omega, fun n hn e => (by have h2 := parse_dgs hn; rw [← e, hpu] at h2; exact nomatch h2), fun h => absurd h Bool.false_ne_true, hb⟩
    clear hpu
    go_enter Tryd.func31, Tryd.ntmps31
    go_wp2_with fail
    refine (HC.out _ HV.out).mono ?_
    rintro e w1 ⟨t, p, rfl, hb1⟩
    have HB1 := Lib.hid hb1
    clear hb1
    go_wp2
    go_ret2
    exact HP.out _ HB1.out

end Go.Proofs.YtojbaepcflkgeaaDoor
