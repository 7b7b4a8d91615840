/- Walks of the laws' own helpers: copies. -/
import Derived.Test.YtjbfoiolcpigfaaDoorProg
import Derived.Test.YtjbfoiolcpigfaaDoorOwn
import Derived.Test.YtjbfoiolcpigfaaDoorA2
namespace Go.Proofs.YtjbfoiolcpigfaaDoor
open Go.RowKit

theorem Tryd.infoI : (Tryd.prog.info? 2).map (fun i => (i.zero, i.size, i.bytes)) = some (some (.int .i64 0), 1, 8) := by kernel_rfl
theorem Tryd.infoR : (Tryd.prog.info? 36).map (fun i => (i.zero, i.size, i.bytes)) = some (some (.slice none 0 0), 1, 24) := by kernel_rfl

set_option maxHeartbeats 400000 in
theorem toInt64S_any (v : Value) (xs : List Int) (w : World) (h : RowAt w v xs) (hs : xs.length ≤ 1048576) :
    Calls Tryd.prog 63 #[v] w fun e w' => e = .returned (.slice (some ⟨w.heap.size, 0, none⟩) xs.length xs.length) ∧ OwnRow 2 w' w.heap.size (.slice (some ⟨w.heap.size, 0, none⟩) xs.length xs.length) xs ∧ Below w.heap.size w w' ∧ w'.heap.size = w.heap.size + 1 := by
  have hI := h.1
  have HI := Lib.hid hI
  clear hI
  have hmk := run_make_row' (P := Tryd.prog) 36 2 (.int .i64 0) 8 Tryd.underlying36 Tryd.infoI rfl .i64 .i64 xs.length (by omega) (by omega)
  rcases h.elim with ⟨e, a, c, rfl⟩ | ⟨b, o, c, rfl, l1, l2, hc⟩
  · have HE := Lib.hid e
    rw [e]
    rw [e] at hmk
    simp only [Int.ofNat_zero] at hmk
    clear e
    go_enter Tryd.func63, Tryd.ntmps63
    go_wp2
    refine wp_loop_rounds 1 ?_
    rw [rounds_succ]
    go_wp2
    go_ret
    exact ⟨rfl, ⟨HI.out, by rw [HE.out]; exact Nat.zero_le _, Or.inr ⟨w.heap.size, 0, madeCells #[.int .i64 0] 0, by rw [HE.out], Nat.le_refl _, heap_alloc_new _ _, by rw [HE.out]; exact Nat.le_refl _, Nat.zero_le _, size_madeCells _ _, fun i hi => absurd hi (by rw [HE.out]; omega)⟩⟩, (Below.refl _ _).alloc (Nat.le_refl _) _, size_alloc1 _ _⟩
  · have hrow := World.rowIs_made w (.int .i64 0) xs.length 2
    have HC := Lib.hid hc
    have HR := Lib.hid hrow
    clear hc hrow
    go_enter Tryd.func63, Tryd.ntmps63
    go_wp2
    go_loopw [4] (fun i wr => ∃ k : Nat, k ≤ xs.length ∧ i = .int .i64 k ∧ wr.rowIs w.heap.size 2 xs.length (fun j => if j < k then .int .i64 (nth xs j) else .int .i64 0) ∧ Below w.heap.size w wr ∧ wr.heap.size = w.heap.size + 1)
      (fun i _ => xs.length - (intOf i).toNat)
    case atStart => exact ⟨0, Nat.zero_le _, rfl, HR.out.congr (fun i hi => by simp), (Below.refl _ _).alloc (Nat.le_refl _) _, size_alloc1 _ _⟩
    case round =>
      obtain ⟨k, hk, rfl, hr, hb, hsz⟩ := hrel
      have HR2 := Lib.hid hr
      have HB := Lib.hid hb
      have HS := Lib.hid hsz
      clear hsz
      by_cases hlt : k < xs.length
      · have hck := cell_keep hb (HC.out k hlt)
        have hcf := hr.frozen k
        have hcc := hr.cell hlt
        simp only [Nat.lt_irrefl, if_false] at hcc
        clear hr hb
        go_wp2
        go_roundw
        case rel =>
          refine ⟨k + 1, by omega, by go_num, (HR2.out.set k (.int .i64 (nth xs k))).congr (fun j hj => ?_), HB.out.setCell (Nat.le_refl _) _, by rw [size_setCell1]; exact HS.out⟩
          by_cases e : j = k
          · subst e; simp
          · simp only [e, if_false]
            by_cases h1 : j < k
            · simp [h1, Nat.lt_succ_of_lt h1]
            · simp [h1, show ¬ j < k + 1 from by omega]
        case measure => simp [intOf]; omega
      · obtain rfl : k = xs.length := by omega
        clear hr hb
        go_wp2
        go_ret
        exact ⟨rfl, OwnRow.of_rowIs HR2.out (Nat.le_refl _) rfl (by unfold maxLen; omega) HI.out (fun i hi => by simp [hi]), HB.out, HS.out⟩

/-- Row i of a copied grid that begins at block B. -/
def rowV (B : Nat) (L : List (List Int)) (i : Nat) : Value := .slice (some ⟨B + 1 + i, 0, none⟩) (nthR L i).length (nthR L i).length

theorem rowV_eq (B : Nat) (L : List (List Int)) (i : Nat) : rowV B L i = .slice (some ⟨B + 1 + i, 0, none⟩) (nthR L i).length (nthR L i).length := rfl

theorem OwnRow.setCell {T : TypeId} {w : World} {B : Nat} {v : Value} {xs : List Int} (h : OwnRow T w B v xs) {a : Addr} (ha : v.ownBlock ≠ some a.block) (u : Value) : OwnRow T (w.setCell a u) B v xs := by
  obtain ⟨h1, h2, h3⟩ := h
  refine ⟨h1, h2, ?_⟩
  rcases h3 with h3 | ⟨g, cap, cur, e, hg, hh, r⟩
  · exact Or.inl h3
  · refine Or.inr ⟨g, cap, cur, e, hg, ?_, r⟩
    rw [heap_setCell_other]
    · exact hh
    · intro e2; apply ha; rw [e]; simp [Value.ownBlock, e2]

set_option maxHeartbeats 400000 in
theorem toInt64SS_any (v : Value) (L : List (List Int)) (w : World) (h : GridAt w v L) (hs : Small L) :
    Calls Tryd.prog 112 #[v] w fun e w' => e = .returned (.slice (some ⟨w.heap.size, 0, none⟩) L.length L.length) ∧ OwnGrid 2 36 w' w.heap.size (.slice (some ⟨w.heap.size, 0, none⟩) L.length L.length) L ∧ Below w.heap.size w w' := by
  have hs1 := hs.1
  have HS := Lib.hid hs
  clear hs
  have hmk := run_make_row' (P := Tryd.prog) 27 36 (.slice none 0 0) 24 Tryd.underlying27 Tryd.infoR rfl .i64 .i64 L.length (by omega) (by omega)
  rcases h.elim with ⟨e, a, c, rfl⟩ | ⟨b, o, c, A, C, rfl, l1, l2, hc⟩
  · have HE := Lib.hid e
    rw [e]
    rw [e] at hmk
    simp only [Int.ofNat_zero] at hmk
    clear e
    go_enter Tryd.func112, Tryd.ntmps112
    go_wp2
    refine wp_loop_rounds 1 ?_
    rw [rounds_succ]
    go_wp2
    go_ret
    exact ⟨rfl, ⟨rowV 0 L, by rw [HE.out]; exact Nat.zero_le _, Or.inr ⟨w.heap.size, 0, madeCells #[.slice none 0 0] 0, by rw [HE.out], Nat.le_refl _, heap_alloc_new _ _, by rw [HE.out]; exact Nat.le_refl _, Nat.zero_le _, size_madeCells _ _, fun i hi => absurd hi (by rw [HE.out]; omega)⟩,
      fun i hi => absurd hi (by rw [HE.out]; omega), fun i j k _ hj => absurd hj (by rw [HE.out]; omega)⟩, (Below.refl _ _).alloc (Nat.le_refl _) _⟩
  · have hrow := World.rowIs_made w (.slice none 0 0) L.length 36
    have HC := Lib.hid hc
    have HR := Lib.hid hrow
    clear hc hrow
    go_enter Tryd.func112, Tryd.ntmps112
    go_wp2
    go_loopw [4] (fun i wr => ∃ k : Nat, k ≤ L.length ∧ i = .int .i64 k ∧ wr.rowIs w.heap.size 36 L.length (fun j => if j < k then rowV w.heap.size L j else .slice none 0 0) ∧ (∀ j, j < k → OwnRow 2 wr (w.heap.size + 1 + j) (rowV w.heap.size L j) (nthR L j)) ∧ Below w.heap.size w wr ∧ wr.heap.size = w.heap.size + 1 + k)
      (fun i _ => L.length - (intOf i).toNat)
    case atStart => exact ⟨0, Nat.zero_le _, rfl, HR.out.congr (fun i hi => by simp), (fun j hj => absurd hj (by omega)), (Below.refl _ _).alloc (Nat.le_refl _) _, size_alloc1 _ _⟩
    case round =>
      obtain ⟨k, hk, rfl, hr, hrs, hb, hsz⟩ := hrel
      have HR2 := Lib.hid hr
      have HRS := Lib.hid hrs
      have HB := Lib.hid hb
      have HZ := Lib.hid hsz
      clear hsz hrs
      by_cases hlt : k < L.length
      · have hck := cell_keep hb (HC.out k hlt).1
        have hrk := (HC.out k hlt).2.keep hb
        clear hr hb
        go_wp2_with fail
        refine (toInt64S_any _ _ _ hrk (HS.out.2 k hlt)).mono ?_
        rintro e w1 ⟨rfl, ho, hb1, hz1⟩
        have HO := Lib.hid ho
        have HB1 := Lib.hid hb1
        have HZ1 := Lib.hid hz1
        have hr1 := HR2.out.of_block (w' := w1) (hb1.block _ HR2.out.lt)
        have HR3 := Lib.hid hr1
        have hcf := hr1.frozen k
        have hcc := hr1.cell hlt
        simp only [Nat.lt_irrefl, if_false] at hcc
        clear ho hb1 hz1 hr1 hrk
        go_wp2
        go_roundw
        case rel =>
          have ev : (Value.slice (some ⟨wr.heap.size, 0, none⟩) (nthR L k).length (nthR L k).length) = rowV w.heap.size L k := by rw [rowV, HZ.out]
          rw [ev]
          refine ⟨k + 1, by omega, by go_num, (HR3.out.set k (rowV w.heap.size L k)).congr (fun j hj => ?_), ?_, ((HB.out.trans (HB1.out.mono (by have := HZ.out; omega)))).setCell (Nat.le_refl _) _, by rw [size_setCell1, HZ1.out, HZ.out]; omega⟩
          · by_cases e : j = k
            · subst e; simp
            · simp only [e, if_false]
              by_cases h1 : j < k
              · simp [h1, Nat.lt_succ_of_lt h1]
              · simp [h1, show ¬ j < k + 1 from by omega]
          · intro j hj
            have hne : (rowV w.heap.size L j).ownBlock ≠ some w.heap.size := by simp [rowV, Value.ownBlock]; omega
            by_cases e : j = k
            · subst e
              refine OwnRow.setCell ?_ hne _
              have := HO.out
              rw [ev, HZ.out] at this
              exact this
            · exact OwnRow.setCell ((HRS.out j (by omega)).keep HB1.out) hne _
        case measure => simp [intOf]; omega
      · obtain rfl : k = L.length := by omega
        clear hr hb
        go_wp2
        go_ret
        obtain ⟨cur, c1, c2, c3⟩ := HR2.out
        refine ⟨rfl, ⟨rowV w.heap.size L, by unfold maxLen; omega, Or.inr ⟨w.heap.size, L.length, cur, rfl, Nat.le_refl _, c1, Nat.le_refl _, by unfold maxLen; omega, c2, fun i hi => by rw [c3 i hi]; simp [hi]⟩, fun i hi => (HRS.out i hi).mono (by omega), ?_⟩, HB.out⟩
        intro i j q hij hj hq
        simp [rowV, Value.ownBlock] at hq ⊢
        omega

end Go.Proofs.YtjbfoiolcpigfaaDoor
