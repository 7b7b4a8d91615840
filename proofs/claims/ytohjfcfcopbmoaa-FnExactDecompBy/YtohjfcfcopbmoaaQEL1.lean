/- The texts EL1, EL2, EL3, joined. -/
import Derived.Test.YtohjfcfcopbmoaaQEO1
import Derived.Test.YtohjfcfcopbmoaaQM9
import Derived.Deep.RegionLaw

/- Walks: of a vertex's neighbours those that are left. -/
namespace Go.Proofs.Ytohjfcfcopbmoaa
open Go.RowKit

theorem rowIs_below {w w' : World} {b n : Nat} {t : TypeId} {f : Nat → Value} (h : w.rowIs b t n f) (hb : Below w.heap.size w w') : w'.rowIs b t n f := h.of_block (hb.block _ h.lt)
/-- Of a row those that have not gone. -/
def stay (p : Nat → Bool) (xs : List Int) : List Int := xs.filter (fun x => !p x.toNat)
theorem stay_len (p : Nat → Bool) (xs : List Int) : (stay p xs).length ≤ xs.length := List.length_filter_le _ _
theorem stay_mem (p : Nat → Bool) (xs : List Int) (z : Int) : z ∈ stay p xs ↔ z ∈ xs ∧ p z.toNat = false := by simp [stay]
theorem stay_take {xs : List Int} {k : Nat} (p : Nat → Bool) (hk : k < xs.length) : stay p (xs.take (k + 1)) = stay p (xs.take k) ++ if p (nth xs k).toNat = true then [] else [nth xs k] := by
  rw [take_snoc hk]
  unfold stay
  rw [List.filter_append]
  congr 1
  by_cases h : p (nth xs k).toNat = true
  · simp [h]
  · simp [h]
theorem stay_pm (q p : Nat → Bool) : stay p (listM (pm q)) = listM (pm (fun j => q j && !p j)) := by
  refine sets_eq (SetP.mk ((listM_set _).pairwise.sublist List.filter_sublist) (fun z hz => (listM_set (pm q)).bounds z ((stay_mem _ _ _).1 hz).1)) (listM_set _) (fun z => ?_)
  rw [stay_mem, listM_mem, listM_mem]
  constructor
  · rintro ⟨⟨i, h1, h2, rfl⟩, h3⟩
    rw [Int.toNat_natCast] at h3
    rw [pm_bit, Bool.and_eq_true] at h2
    exact ⟨i, h1, by rw [pm_bit, h2.2, h3]; simp [h1], rfl⟩
  · rintro ⟨i, h1, h2, rfl⟩
    rw [pm_bit, Bool.and_eq_true, Bool.and_eq_true] at h2
    refine ⟨⟨i, h1, by rw [pm_bit, h2.2.1]; simp [h1], rfl⟩, ?_⟩
    rw [Int.toNat_natCast]
    simpa using h2.2.2

set_option maxHeartbeats 2000000 in
set_option maxRecDepth 100000 in
theorem l7Left_any (gv : Value) (L : List (List Int)) (v gb : Nat) (p : Nat → Bool) (w : World) (h : GridAt w gv L) (hL : SetP (nthR L v) L.length) (hn : L.length ≤ 16) (hv : v < L.length)
    (hf : w.rowIs gb 4 L.length (fun i => .bool (p i))) :
    Calls Try.prog 56 #[.agg #[gv], .int .i64 (v : Int), .slice (some ⟨gb, 0, none⟩) L.length L.length] w (GaveRow w (stay p (nthR L v))) := by
  obtain ⟨i0, hi, hz0, hz1, hz2⟩ := info_parts Try.infoI
  obtain ⟨gbk, go, gc, A, C, rfl, l1, l2, hc⟩ := h.pos (by omega)
  obtain ⟨hcv, hrow⟩ := hc v hv
  have hbx : Below w.heap.size w (w.alloc (.cells #[.slice (some ⟨gbk, go, none⟩) L.length gc] 37)) := (Below.refl _ _).alloc (Nat.le_refl _) _
  have hown0 : ((w.alloc (.cells #[.slice (some ⟨gbk, go, none⟩) L.length gc] 37)).alloc (.cells #[] 2)).ownsRow (w.heap.size + 1) 2 1 (.slice (some ⟨w.heap.size + 1, 0, none⟩) 0 0) 0 [] := by
    have := World.ownsRow_lit (w.alloc (.cells #[.slice (some ⟨gbk, go, none⟩) L.length gc] 37)) (e := 2) (base := w.heap.size + 1) (size := 1) #[] 0 (by simp) (Nat.zero_le _) rfl
    rw [size_alloc1] at this
    exact this
  have hlen : (nthR L v).length ≤ 16 := by have := hL.len (by omega); omega
  obtain ⟨xs, hxs⟩ : ∃ xs, xs = nthR L v := ⟨_, rfl⟩
  rw [← hxs] at hcv hrow hlen hL ⊢
  have HO0 := Lib.hid hown0
  have HX : Hid (∀ i, i < xs.length → ∃ u : Nat, nth xs i = (u : Int) ∧ u < L.length) := fun i hi => by
    have := hL.bounds _ (nth_mem hi)
    exact ⟨(nth xs i).toNat, by omega, by omega⟩
  have HB0 : Hid (Below w.heap.size w ((w.alloc (.cells #[.slice (some ⟨gbk, go, none⟩) L.length gc] 37)).alloc (.cells #[] 2))) := hbx.alloc hbx.size _
  have HKB : Hid (((w.alloc (.cells #[.slice (some ⟨gbk, go, none⟩) L.length gc] 37)).alloc (.cells #[] 2)).heap[w.heap.size]? = some (.cells #[.slice (some ⟨gbk, go, none⟩) L.length gc] 37 (0, 0))) := heap_alloc2_old w _ _
  have HR := Lib.hid hrow
  have HCV := Lib.hid hcv
  have HF := Lib.hid hf
  have hvI : (v : Int) < (L.length : Int) := by omega
  clear h hc hbx hown0 hrow hcv hf hL hxs
  go_enter Try.func56, Try.ntmps56
  go_wp2_with fail
  go_loopw [7, 8] (fun s i wr => ∃ k : Nat, k ≤ xs.length ∧ i = .int .i64 k ∧ wr.ownsRow (w.heap.size + 1) 2 1 s (stay p (xs.take k)).length ((stay p (xs.take k)).map (Value.int .i64)) ∧ Below w.heap.size w wr ∧ w.heap.size + 1 ≤ wr.heap.size ∧ wr.heap[w.heap.size]? = some (.cells #[.slice (some ⟨gbk, go, none⟩) L.length gc] 37 (0, 0))) (fun _ i _ => xs.length - (intOf i).toNat)
  case atStart => exact ⟨0, Nat.zero_le _, rfl, HO0.out, HB0.out, by simp, HKB.out⟩
  case round =>
    obtain ⟨k, hk, rfl, ho, hb, hz, hkb⟩ := hrel
    have HO := Lib.hid ho
    have HB := Lib.hid hb
    have HK := Lib.hid hkb
    have hll : (stay p (xs.take k)).length ≤ 16 := by have := stay_len p (xs.take k); rw [List.length_take] at this; omega
    have kb : wr.cell? ⟨w.heap.size, 0, none⟩ = some (.slice (some ⟨gbk, go, none⟩) L.length gc) := by rw [cell_of_row wr _ 0 _ _ _ hkb]; rfl
    have kv : wr.cell? ⟨gbk, go + v, none⟩ = some (.slice (A v) xs.length (C v)) := cell_keep hb HCV.out
    clear ho
    by_cases hlt : k < xs.length
    · obtain ⟨b, o, c', e2, l1', l2', hc⟩ := HR.out.pos (by omega)
      simp only [Value.slice.injEq, true_and] at e2
      obtain ⟨e2, rfl⟩ := e2
      rw [e2] at kv
      obtain ⟨u, hu, hul⟩ := HX.out k hlt
      have hck := cell_keep hb (hc k hlt)
      have kg : wr.cell? ⟨gb, u, none⟩ = some (.bool (p u)) := (rowIs_below HF.out hb).cell hul
      rw [hu] at hck
      have HT := Lib.hid (stay_take p hlt)
      have HU := Lib.hid hu
      have hulI : (u : Int) < (L.length : Int) := by omega
      clear hc hb e2 hu
      by_cases hp : p u = true
      · have HP := Lib.hid hp
        rw [hp] at kg
        clear hp
        go_wp2
        go_roundw
        case rel =>
          refine ⟨k + 1, by omega, by go_num, ?_, HB.out, hz, HK.out⟩
          rw [HT.out, HU.out, Int.toNat_natCast, if_pos HP.out, List.append_nil]
          exact HO.out
        case measure => simp [intOf]; omega
      · have hp' : p u = false := by simpa using hp
        have HP := Lib.hid hp
        rw [hp'] at kg
        clear hp hp'
        go_wp2_with (at_builtin; refine wpList_append_own _ rfl (.tmp 32) (.tmp 41) 33 rfl (w.heap.size + 1) 2 i0 (.int .i64 0) 1 8 Try.underlying33 hi hz0 hz1 hz2 rfl (by decide) _ _ _ rfl (HO.out.alloc _) ⟨wr.heap.size, 0, none⟩ 1 1 [.int .i64 (u : Int)] rfl rfl ?d1 ?d2 ?d3 ?d4 ?d5 ?_)
        case d1 =>
          intro j u hj
          match j, hj with
          | 0, hj => simp at hj; subst hj; simp [Addr.add]
        case d2 => intro u hu; simp at hu; subst hu; rfl
        case d3 => unfold maxLen; omega
        case d4 => omega
        case d5 => simp; omega
        intro v4 w4 hown4 hgrow4 _
        have hb4 : Below (w.heap.size + 1) wr w4 := ((Below.refl _ _).alloc hz _).grown hgrow4 (by simp; omega) (fun j hj => (HO.out.lt j hj).1)
        have HO4 := Lib.hid hown4
        have HK4 : Hid (w4.heap[w.heap.size]? = some (.cells #[.slice (some ⟨gbk, go, none⟩) L.length gc] 37 (0, 0))) := by
          have e := hb4.block w.heap.size (by omega)
          show _ = _
          rw [e]; exact HK.out
        have HB4 : Hid (Below w.heap.size w w4) := HB.out.trans (hb4.mono (by omega))
        have HZ4 : Hid (w.heap.size + 1 ≤ w4.heap.size) := Nat.le_trans hz hb4.size
        clear hown4 hgrow4 hb4 hck kg kv kb
        go_wp2
        go_roundw
        case rel =>
          refine ⟨k + 1, by omega, by go_num, ?_, HB4.out, HZ4.out, HK4.out⟩
          rw [HT.out, HU.out, Int.toNat_natCast, if_neg HP.out]
          simpa using HO4.out
        case measure => simp [intOf]; omega
    · obtain rfl : k = xs.length := by omega
      have hro : OwnRow 2 wr (w.heap.size + 1) _ (stay p (xs.take xs.length)) := OwnRow.of_ownsRow (n := (stay p (xs.take xs.length)).length) HO.out (by unfold maxLen; omega) (fun z hz => HR.out.1 z (by rw [List.take_length] at hz; exact ((stay_mem _ _ _).1 hz).1))
      rw [List.take_length] at hro
      obtain ⟨a4, c4, e4⟩ := hro.row.slice
      have HP : Hid (GaveRow w (stay p xs) (.returned (.slice a4 (stay p xs).length c4)) wr) := ⟨_, a4, c4, rfl, by rw [← e4]; exact hro.mono (by omega), HB.out⟩
      rw [e4]
      clear hro e4
      go_wp2
      go_ret
      exact HP.out

end Go.Proofs.Ytohjfcfcopbmoaa

/- Walks: all of a list become neighbours. -/
namespace Go.Proofs.Ytohjfcfcopbmoaa
open Go.RowKit

open Classical in
/-- Pairs of a list joined: those of the first i elements, and of the next one with the first k. -/
noncomputable def clA (A : Nat → Nat → Bool) (xs : List Int) (i k : Nat) (x y : Nat) : Bool :=
  A x y || decide (∃ q p, p < q ∧ (q < i ∨ (q = i ∧ p < k)) ∧ ((x = vtxN xs p ∧ y = vtxN xs q) ∨ (x = vtxN xs q ∧ y = vtxN xs p)))
open Classical in
theorem clA_zero (A : Nat → Nat → Bool) (xs : List Int) : clA A xs 0 0 = A := by
  funext x y
  unfold clA
  rw [decide_eq_false (by rintro ⟨q, p, h1, h2, _⟩; omega), Bool.or_false]
open Classical in
theorem clA_link (A : Nat → Nat → Bool) (xs : List Int) {i k : Nat} (h : k < i) : clA A xs i (k + 1) = linkA (clA A xs i k) (vtxN xs k) (vtxN xs i) := by
  funext x y
  unfold clA linkA
  rw [Bool.eq_iff_iff]
  simp only [Bool.or_eq_true, decide_eq_true_eq, Bool.and_eq_true, beq_iff_eq]
  constructor
  · rintro (h1 | ⟨q, p, h1, h2, h3⟩)
    · exact Or.inl (Or.inl (Or.inl h1))
    · by_cases e : q = i ∧ p = k
      · obtain ⟨rfl, rfl⟩ := e
        rcases h3 with h3 | h3
        · exact Or.inl (Or.inr h3)
        · exact Or.inr h3
      · exact Or.inl (Or.inl (Or.inr ⟨q, p, h1, by omega, h3⟩))
  · rintro (((h1 | ⟨q, p, h1, h2, h3⟩) | h1) | h1)
    · exact Or.inl h1
    · exact Or.inr ⟨q, p, h1, by omega, h3⟩
    · exact Or.inr ⟨i, k, h, by omega, Or.inl h1⟩
    · exact Or.inr ⟨i, k, h, by omega, Or.inr h1⟩
open Classical in
theorem clA_next (A : Nat → Nat → Bool) (xs : List Int) (i : Nat) : clA A xs i i = clA A xs (i + 1) 0 := by
  funext x y
  unfold clA
  congr 1
  rw [Bool.eq_iff_iff, decide_eq_true_iff, decide_eq_true_iff]
  constructor
  · rintro ⟨q, p, h1, h2, h3⟩; exact ⟨q, p, h1, by omega, h3⟩
  · rintro ⟨q, p, h1, h2, h3⟩; exact ⟨q, p, h1, by omega, h3⟩
theorem vtx_listM {S : Nat → Bool} {k : Nat} (h : k < (listM (pm S)).length) : S (vtxN (listM (pm S)) k) = true ∧ vtxN (listM (pm S)) k < 16 ∧ nth (listM (pm S)) k = ((vtxN (listM (pm S)) k : Nat) : Int) := by
  obtain ⟨i, h1, h2, h3⟩ := (listM_mem _ _).1 (nth_mem h)
  rw [pm_bit, Bool.and_eq_true] at h2
  unfold vtxN
  rw [← h3, Int.toNat_natCast]
  exact ⟨h2.2, h1, rfl⟩
theorem vtx_some {S : Nat → Bool} {u : Nat} (hu : u < 16) (h : S u = true) : ∃ k, k < (listM (pm S)).length ∧ vtxN (listM (pm S)) k = u := by
  have hm : (u : Int) ∈ listM (pm S) := (listM_mem _ _).2 ⟨u, hu, by rw [pm_bit, h]; simp [hu], rfl⟩
  obtain ⟨k, hk, e⟩ := List.getElem_of_mem hm
  refine ⟨k, hk, ?_⟩
  unfold vtxN
  rw [nth_eq hk, e, Int.toNat_natCast]
open Classical in
theorem clA_all {A : Nat → Nat → Bool} {S : Nat → Bool} (hS : ∀ u, S u = true → u < 16) : clA A (listM (pm S)) (listM (pm S)).length 0 = cliqueA A S := by
  funext x y
  unfold clA cliqueA
  congr 1
  rw [Bool.eq_iff_iff, decide_eq_true_iff, Bool.and_eq_true, Bool.and_eq_true, bne_iff_ne]
  constructor
  · rintro ⟨q, p, h1, h2, h3⟩
    have hq : q < (listM (pm S)).length := by omega
    have hp : p < (listM (pm S)).length := by omega
    have hne : vtxN (listM (pm S)) p ≠ vtxN (listM (pm S)) q := fun e => by have := vtx_inj hp hq e; omega
    rcases h3 with ⟨rfl, rfl⟩ | ⟨rfl, rfl⟩
    · exact ⟨⟨(vtx_listM hp).1, (vtx_listM hq).1⟩, hne⟩
    · exact ⟨⟨(vtx_listM hq).1, (vtx_listM hp).1⟩, hne.symm⟩
  · rintro ⟨⟨h1, h2⟩, h3⟩
    obtain ⟨p, hp, rfl⟩ := vtx_some (hS x h1) h1
    obtain ⟨q, hq, rfl⟩ := vtx_some (hS y h2) h2
    rcases Nat.lt_trichotomy p q with e | e | e
    · exact ⟨q, p, e, by omega, Or.inl ⟨rfl, rfl⟩⟩
    · subst e; exact absurd rfl h3
    · exact ⟨p, q, e, by omega, Or.inr ⟨rfl, rfl⟩⟩

/-- At work: the boxes of the argument and the result, the graph, the rest of the heap. -/
structure CliqW (w0 : World) (B g n cap : Nat) (R : Nat → Nat → Bool) (w : World) : Prop where
  arg : BoxT 37 w w0.heap.size (.slice (some ⟨g, 0, none⟩) n cap)
  res : BoxT 37 w (w0.heap.size + 1) (.slice none 0 0)
  gr : OwnGrid 2 33 w B (.slice (some ⟨g, 0, none⟩) n cap) (adjL n R)
  bel : Below B w0 w
  oth : ∀ k, k < w0.heap.size → k ≠ g → w.heap[k]? = w0.heap[k]?
  sz : w0.heap.size + 1 + 1 ≤ w.heap.size
theorem CliqW.keep {w0 : World} {B g n cap : Nat} {R : Nat → Nat → Bool} {w w' : World} (h : CliqW w0 B g n cap R w) (hb : Below w.heap.size w w') (hB : B ≤ w0.heap.size) : CliqW w0 B g n cap R w' := by
  have hs := h.sz
  exact ⟨h.arg.keep hb, h.res.keep hb, h.gr.keep hb, h.bel.trans (hb.mono (by omega)), fun k hk hkg => by rw [hb.block k (by omega)]; exact h.oth k hk hkg, Nat.le_trans hs hb.size⟩

set_option maxHeartbeats 4000000 in
set_option maxRecDepth 100000 in
theorem l7Clique_any (g n cap B B2 : Nat) (lv : Value) (A : Nat → Nat → Bool) (S : Nat → Bool) (w : World) (h : OwnGrid 2 33 w B (.slice (some ⟨g, 0, none⟩) n cap) (adjL n A)) (hB : B ≤ w.heap.size) (hgs : g < w.heap.size) (hn : 1 ≤ n ∧ n ≤ 16)
    (hl : OwnRow 2 w B2 lv (listM (pm S))) (hg2 : g < B2) (hS : ∀ u, S u = true → u < n) :
    Calls Try.prog 72 #[.agg #[.slice (some ⟨g, 0, none⟩) n cap], lv] w
      (fun e w' => e = .returned (.agg #[.slice (some ⟨g, 0, none⟩) n cap]) ∧ OwnGrid 2 33 w' B (.slice (some ⟨g, 0, none⟩) n cap) (adjL n (cliqueA A S)) ∧ Below B w w' ∧ w.heap.size ≤ w'.heap.size ∧ ∀ k, k < w.heap.size → k ≠ g → w'.heap[k]? = w.heap[k]?) := by
  obtain ⟨a1, c1, rfl⟩ := hl.row.slice
  obtain ⟨xs, hxs⟩ : ∃ xs, xs = listM (pm S) := ⟨_, rfl⟩
  have hlen := listM_len (pm S)
  have HV : Hid (∀ k, k < xs.length → ∃ u : Nat, nth xs k = (u : Int) ∧ u = vtxN xs k ∧ u < n) := fun k hk => by
    subst hxs
    obtain ⟨h1, h2, h3⟩ := vtx_listM hk
    exact ⟨_, h3, rfl, hS _ h1⟩
  have HI : Hid (∀ i k, i < xs.length → k < xs.length → vtxN xs i = vtxN xs k → i = k) := fun i k hi hk e => by subst hxs; exact vtx_inj hi hk e
  have HALL : Hid (clA A xs xs.length 0 = cliqueA A S) := by subst hxs; exact clA_all (fun u hu => by have := hS u hu; omega)
  rw [← hxs] at hl hlen ⊢
  have HL := Lib.hid hl
  have HW0 : Hid (CliqW w B g n cap (clA A xs 0 0) ((w.alloc (.cells #[.slice (some ⟨g, 0, none⟩) n cap] 37)).alloc (.cells #[.slice none 0 0] 37))) := by
    have hb1 : Below w.heap.size w (w.alloc (.cells #[.slice (some ⟨g, 0, none⟩) n cap] 37)) := (Below.refl _ _).alloc (Nat.le_refl _) _
    have hb2 : Below w.heap.size w ((w.alloc (.cells #[.slice (some ⟨g, 0, none⟩) n cap] 37)).alloc (.cells #[.slice none 0 0] 37)) := hb1.alloc hb1.size _
    refine ⟨heap_alloc2_old w _ _, ?_, ?_, hb2.mono hB, fun k hk _ => hb2.block k hk, by simp⟩
    · have := BoxT.new (w.alloc (.cells #[.slice (some ⟨g, 0, none⟩) n cap] 37)) (.slice none 0 0) 37
      rwa [size_alloc1] at this
    · rw [clA_zero]; exact h.keep hb2
  clear h hl hxs hS
  go_enter Try.func72, Try.ntmps72
  go_wp2_with fail
  go_loopw [5] (fun i wr => ∃ k : Nat, k ≤ xs.length ∧ i = .int .i64 k ∧ CliqW w B g n cap (clA A xs k 0) wr) (fun i _ => xs.length - (intOf i).toNat)
  case atStart => exact ⟨0, Nat.zero_le _, rfl, HW0.out⟩
  case round =>
    obtain ⟨i, hi, rfl, hw⟩ := hrel
    have HW := Lib.hid hw
    clear hw
    by_cases hlt : i < xs.length
    · go_wp2_with fail
      go_loopw [6] (fun q wr => ∃ k : Nat, k ≤ i ∧ q = .int .i64 k ∧ CliqW w B g n cap (clA A xs i k) wr) (fun q _ => i - (intOf q).toNat)
      case atStart => exact ⟨0, Nat.zero_le _, rfl, HW.out⟩
      case round =>
        rename World => w4
        obtain ⟨k, hk, rfl, hw⟩ := hrel
        have HW4 := Lib.hid hw
        by_cases hql : k < i
        · obtain ⟨x, hx, hxv, hxn⟩ := HV.out k (by omega)
          obtain ⟨y, hy, hyv, hyn⟩ := HV.out i hlt
          have hxy : x ≠ y := fun e => by
            have := HI.out k i (by omega) hlt (by rw [← hxv, ← hyv, e])
            omega
          have HS : Hid (clA A xs i (k + 1) = linkA (clA A xs i k) x y) := by show _ = _; rw [clA_link A xs hql, ← hxv, ← hyv]
          have kb := hw.arg.box.1
          have hrow : OwnRow 2 w4 B2 (.slice a1 xs.length c1) xs := by
            obtain ⟨p1, p2, p3⟩ := HL.out
            refine ⟨p1, p2, ?_⟩
            rcases p3 with p3 | ⟨g3, cap3, cur3, e3, hg3, hh3, r3⟩
            · exact Or.inl p3
            · refine Or.inr ⟨g3, cap3, cur3, e3, hg3, ?_, r3⟩
              rw [hw.oth g3 (Array.getElem?_eq_some_iff.1 hh3).1 (by omega)]
              exact hh3
          obtain ⟨bx, ox, cx, ex, lx1, lx2, hcx⟩ := hrow.row.pos (by omega)
          simp only [Value.slice.injEq, true_and] at ex
          obtain ⟨rfl, rfl⟩ := ex
          have kk := hcx k (by omega)
          have ki := hcx i hlt
          rw [hx] at kk
          rw [hy] at ki
          have hkI : (k : Int) < (xs.length : Int) := by omega
          have hiI : (i : Int) < (xs.length : Int) := by omega
          clear hw hcx hrow hx hy hxv hyv
          go_wp2_with fail
          go_still_tail 9, (by kernel_rfl)
          change wpList _ _ _ _ _ w4.drew
          have HW5 := Lib.hid (HW4.out.keep (Below.refl _ _).drew hB)
          clear HW4 kb kk ki
          generalize w4.drew = w5 at HW5 ⊢
          go_wp2_with fail
          refine (l1Link_adj x y g cap B n _ _ HW5.out.gr (by have := HW5.out.sz; omega) hxn hyn hn.2 hxy).mono ?_
          rintro e w6 ⟨rfl, ho6, hb6, ht6⟩
          rw [← HS.out] at ho6
          have hsz5 := HW5.out.sz
          have hne : w.heap.size ≠ g := by omega
          have bt6 : BoxT 37 w6 w.heap.size (.slice (some ⟨g, 0, none⟩) n cap) := by
            unfold BoxT
            rw [ht6 _ HW5.out.arg.lt hne]
            exact HW5.out.arg
          have kb6 := bt6.box.1
          have kf6 := bt6.box.2
          have HW6 : Hid (CliqW w B g n cap (clA A xs i (k + 1)) (w6.setCell ⟨w.heap.size, 0, none⟩ (.slice (some ⟨g, 0, none⟩) n cap))) := by
            refine ⟨bt6.set _, ?_, ho6.setType bt6 (by decide) (by decide) 0 _, (HW5.out.bel.trans hb6).setCell (by simp; omega) _, fun j hj hjg => ?_, by rw [size_setCell1]; have := hb6.size; omega⟩
            · have hr : BoxT 37 w6 (w.heap.size + 1) (.slice none 0 0) := by
                unfold BoxT
                rw [ht6 _ HW5.out.res.lt (by omega)]
                exact HW5.out.res
              exact hr.setOther (by simp) _
            · rw [heap_setCell_other _ _ _ _ (by simp; omega), ht6 j (by omega) hjg]
              exact HW5.out.oth j hj hjg
          clear bt6 ho6 hb6 ht6 HW5
          go_wp2
          go_roundw
          case rel => exact ⟨k + 1, by omega, by go_num, HW6.out⟩
          case measure => simp [intOf]; omega
        · obtain rfl : k = i := by omega
          clear hw
          go_wp2
          go_roundw
          case rel => exact ⟨k + 1, by omega, by go_num, by rw [← clA_next]; exact HW4.out⟩
          case measure => simp [intOf]; omega
    · obtain rfl : i = xs.length := by omega
      have kb := HW.out.arg.box.1
      have kr := HW.out.res.box.1
      have kf := HW.out.res.box.2
      go_wp2
      have q0 : (wr.setCell ⟨w.heap.size + 1, 0, none⟩ (.slice (some ⟨g, 0, none⟩) n cap)).cell? ⟨w.heap.size + 1, 0, none⟩ = some (.slice (some ⟨g, 0, none⟩) n cap) := cell_set_same _ HW.out.res.box.1
      have hsz := HW.out.sz
      refine bodyPost_ret (v := .agg #[.slice (some ⟨g, 0, none⟩) n cap]) (by simp [results, Try.results72, go_sem, q0]) rfl ⟨rfl, ?_, HW.out.bel.setCell (by simp; omega) _, by rw [size_setCell1]; omega, fun k hk hkg => ?_⟩
      · have ho := HW.out.gr
        rw [HALL.out] at ho
        exact ho.setType HW.out.res (by decide) (by decide) 0 _
      · rw [heap_setCell_other _ _ _ _ (by simp; omega)]
        exact HW.out.oth k hk hkg

end Go.Proofs.Ytohjfcfcopbmoaa

/- Walks: the model's filled graph. -/
namespace Go.Proofs.Ytohjfcfcopbmoaa
open Go.RowKit

theorem Try.infoBo : (Try.prog.info? 4).map (fun i => (i.zero, i.size, i.bytes)) = some (some (.bool false), 1, 1) := by kernel_rfl

/-- A graph at work in a box, beside it a row that tells who has gone. -/
structure FillW (w0 : World) (B b5 g gb n cap : Nat) (F : Nat → Nat → Bool) (p : Nat → Bool) (w : World) : Prop where
  out : BoxT 37 w b5 (.slice (some ⟨g, 0, none⟩) n cap)
  gr : OwnGrid 2 33 w B (.slice (some ⟨g, 0, none⟩) n cap) (adjL n F)
  gone : w.rowIs gb 4 n (fun i => .bool (p i))
  bel : Below B w0 w
theorem rowIs_type {w : World} {b n : Nat} {t : TypeId} {f : Nat → Value} (h : w.rowIs b t n f) : ∃ cur, w.heap[b]? = some (.cells cur t (0, 0)) := by
  obtain ⟨c, hb, _⟩ := h
  exact ⟨c, hb⟩
theorem FillW.keep {w0 : World} {B b5 g gb n cap : Nat} {F : Nat → Nat → Bool} {p : Nat → Bool} {w w' : World} (h : FillW w0 B b5 g gb n cap F p w) (hb : Below w.heap.size w w') (hB : B ≤ w.heap.size) : FillW w0 B b5 g gb n cap F p w' :=
  ⟨h.out.keep hb, h.gr.keep hb, rowIs_below h.gone hb, h.bel.trans (hb.mono hB)⟩
theorem FillW.flag {w0 : World} {B b5 g gb n cap : Nat} {F : Nat → Nat → Bool} {p : Nat → Bool} {w : World} (h : FillW w0 B b5 g gb n cap F p w) (v : Nat) (hB : B ≤ gb) (hb5 : b5 ≠ gb) : FillW w0 B b5 g gb n cap F (fun i => if i = v then true else p i) (w.setCell ⟨gb, v, none⟩ (.bool true)) := by
  obtain ⟨cur, hc⟩ := rowIs_type h.gone
  refine ⟨h.out.setOther hb5 _, h.gr.setType hc (by decide) (by decide) v _, (h.gone.set v (.bool true)).congr (fun i _ => ?_), h.bel.setCell hB _⟩
  by_cases e : i = v
  · rw [if_pos e, if_pos e]
  · rw [if_neg e, if_neg e]
theorem FillW.congr {w0 : World} {B b5 g gb n cap : Nat} {F F' : Nat → Nat → Bool} {p p' : Nat → Bool} {w : World} (h : FillW w0 B b5 g gb n cap F p w) (e : F = F') (e2 : ∀ i, i < n → p i = p' i) : FillW w0 B b5 g gb n cap F' p' w :=
  ⟨h.out, by rw [← e]; exact h.gr, h.gone.congr (fun i hi => by rw [e2 i hi]), h.bel⟩
/-- The graph has turned, nothing else that was there; it is put back into its box. -/
theorem FillW.turned {w0 : World} {B b5 g gb n cap : Nat} {F F' : Nat → Nat → Bool} {p : Nat → Bool} {w w' : World} (h : FillW w0 B b5 g gb n cap F p w) (ho : OwnGrid 2 33 w' B (.slice (some ⟨g, 0, none⟩) n cap) (adjL n F')) (hb : Below B w w') (ht : ∀ k, k < w.heap.size → k ≠ g → w'.heap[k]? = w.heap[k]?)
    (h5 : b5 ≠ g) (hgb : gb ≠ g) (h5g : b5 ≠ gb) (hB5 : B ≤ b5) : BoxT 37 w' b5 (.slice (some ⟨g, 0, none⟩) n cap) ∧ FillW w0 B b5 g gb n cap F' p (w'.setCell ⟨b5, 0, none⟩ (.slice (some ⟨g, 0, none⟩) n cap)) := by
  have h1 : BoxT 37 w' b5 (.slice (some ⟨g, 0, none⟩) n cap) := by unfold BoxT; rw [ht _ h.out.lt h5]; exact h.out
  have h2 : w'.rowIs gb 4 n (fun i => .bool (p i)) := h.gone.of_block (ht _ h.gone.lt hgb)
  exact ⟨h1, h1.set _, ho.setType h1 (by decide) (by decide) 0 _, h2.setOther (a := ⟨b5, 0, none⟩) (fun e => h5g e.symm) _, (h.bel.trans hb).setCell hB5 _⟩

theorem left_row {n : Nat} {F : Nat → Nat → Bool} {v : Nat} (hv : v < n) (p : Nat → Bool) : stay p (nthR (adjL n F) v) = listM (pm (fun u => F v u && !p u)) := by
  rw [adjL_nth _ hv, stay_pm]
theorem adj_setP {n : Nat} {F : Nat → Nat → Bool} (h : RelP n F) (hn : 1 ≤ n ∧ n ≤ 16) {v : Nat} (hv : v < n) : SetP (nthR (adjL n F) v) ((adjL n F).length : Int) := by
  have hG := h.graph hn
  exact (hG.2.1 v (by rw [adjL_len]; exact hv)).1
/-- l7Left of a graph at work. -/
theorem l7Left_work {w0 : World} {B b5 g gb n cap : Nat} {F : Nat → Nat → Bool} {p : Nat → Bool} {w : World} (h : FillW w0 B b5 g gb n cap F p w) (hF : RelP n F) (hn : 1 ≤ n ∧ n ≤ 16) {v : Nat} (hv : v < n) :
    Calls Try.prog 56 #[.agg #[.slice (some ⟨g, 0, none⟩) n cap], .int .i64 (v : Int), .slice (some ⟨gb, 0, none⟩) n n] w (GaveRow w (listM (pm (fun u => F v u && !p u)))) := by
  have hl := adjL_len n F
  have h1 := l7Left_any (.slice (some ⟨g, 0, none⟩) n cap) (adjL n F) v gb p w h.gr.grid (adj_setP hF hn hv) (by rw [hl]; exact hn.2) (by rw [hl]; exact hv) (by rw [hl]; exact h.gone)
  rw [hl, left_row hv] at h1
  exact h1

theorem hasB_more {ys : List Int} {v i : Nat} : (if i = v then true else hasB ys (i : Int)) = hasB (ys ++ [(v : Int)]) (i : Int) := by
  rw [hasB_snoc]
  by_cases e : i = v
  · subst e; simp
  · have : ((i : Int) == (v : Int)) = false := by rw [beq_eq_false_iff_ne]; omega
    rw [if_neg e, this, Bool.or_false]

set_option maxHeartbeats 4000000 in
set_option maxRecDepth 100000 in
theorem l7Fill_any (v v1 : Value) (L : List (List Int)) (xs : List Int) (w : World) (h : GridAt w v L) (h1 : RowAt w v1 xs) (hG : GraphP L) (hO : OrdP xs L.length) :
    Calls Try.prog 54 #[.agg #[v], v1] w (GaveGraph w (adjL L.length (fillX (adjB L) xs))) := by
  have hz := hG.1
  have hlen := hO.1
  have hs : Small L := ⟨by omega, fun i hi => by have := (hG.2.1 i hi).1.len (by omega); omega⟩
  obtain ⟨a0, c0, rfl⟩ := h.slice
  obtain ⟨bx, ox, cx, rfl, lx1, lx2, hcx⟩ := h1.pos (by omega)
  have hrel0 := adjB_rel hG
  have HREL : Hid (∀ ys, RelP L.length (fillX (adjB L) ys)) := fun ys => fillX_rel hrel0 ys
  have HADJ := Lib.hid (graph_adjL hG)
  have HS := Lib.hid hs
  have HG := Lib.hid h
  have HCX := Lib.hid hcx
  have HV : Hid (∀ k, k < xs.length → ∃ u : Nat, u < L.length ∧ nth xs k = (u : Int)) := fun k hk => ordP_at hO hk
  obtain ⟨wA, hwA⟩ : ∃ wA, wA = (w.alloc (.cells #[.slice a0 L.length c0] 37)).alloc (.cells #[.slice none 0 0] 37) := ⟨_, rfl⟩
  have hb2 : Below w.heap.size w wA := by rw [hwA]; exact ((Below.refl _ _).alloc (Nat.le_refl _) _).alloc (by simp) _
  have hres : BoxT 37 wA (w.heap.size + 1) (.slice none 0 0) := by
    have := BoxT.new (w.alloc (.cells #[.slice a0 L.length c0] 37)) (.slice none 0 0) 37
    rw [size_alloc1, ← hwA] at this; exact this
  have harg : BoxT 37 wA w.heap.size (.slice a0 L.length c0) := by rw [hwA]; exact heap_alloc2_old w _ _
  have hszA : wA.heap.size = w.heap.size + 1 + 1 := by rw [hwA, size_alloc1, size_alloc1]
  have hargc := harg.box.1
  have HB2 := Lib.hid hb2
  have HRES := Lib.hid hres
  have HARG := Lib.hid harg
  have HSZA := Lib.hid hszA
  clear h h1 hG hcx hrel0 hs hb2 hO hszA hres harg
  go_enter Try.func54, Try.ntmps54
  go_wp2_with fail
  rw [← hwA]
  clear hwA
  refine (l1CopyGraph_any _ _ _ (HG.out.keep HB2.out) HS.out).mono ?_
  rintro e w3 ⟨n3, a3, c3, rfl, ho3, hb3⟩
  rw [← HADJ.out] at ho3
  obtain ⟨g, cap, eg, hBg, hgs, _⟩ := ho3.place (by rw [adjL_len]; omega)
  simp only [adjL_len, Value.slice.injEq] at eg
  obtain ⟨rfl, rfl, rfl⟩ := eg
  have HO3 := Lib.hid ho3
  have hz3 : wA.heap.size ≤ w3.heap.size := hb3.size
  have HB3 := Lib.hid hb3
  have k3 := (HARG.out.keep hb3).box.1
  have hb4 : Below w3.heap.size w3 (w3.alloc (.cells #[.slice (some ⟨g, 0, none⟩) L.length c3] 37)) := (Below.refl _ _).alloc (Nat.le_refl _) _
  have k4 : (w3.alloc (.cells #[.slice (some ⟨g, 0, none⟩) L.length c3] 37)).cell? ⟨w.heap.size, 0, none⟩ = some (.slice a0 L.length c0) := ((HARG.out.keep HB3.out).keep hb4).box.1
  have HB4 : Hid (Below wA.heap.size wA (w3.alloc (.cells #[.slice (some ⟨g, 0, none⟩) L.length c3] 37))) := HB3.out.trans (hb4.mono hz3)
  have HO4 := Lib.hid (HO3.out.keep hb4)
  have HBT4 : Hid (BoxT 37 (w3.alloc (.cells #[.slice (some ⟨g, 0, none⟩) L.length c3] 37)) w3.heap.size (.slice (some ⟨g, 0, none⟩) L.length c3)) := BoxT.new _ _ _
  clear ho3 hb3 hargc hb4 HO3
  go_wp2_with fail
  refine (l1Size_any _ L _ (HG.out.keep (HB2.out.trans (HB4.out.mono (by have := HSZA.out; omega))))).mono ?_
  rintro e w5 ⟨rfl, hb5⟩
  have HB5 : Hid (Below wA.heap.size wA w5) := HB4.out.trans (hb5.mono (by rw [size_alloc1]; omega))
  have HO5 := Lib.hid (HO4.out.keep hb5)
  have HBT5 := Lib.hid (HBT4.out.keep hb5)
  have hz5 : w3.heap.size + 1 ≤ w5.heap.size := by have := hb5.size; rw [size_alloc1] at this; exact this
  have hmk := run_make_row' (P := Try.prog) 77 4 (.bool false) 1 Try.underlying77 Try.infoBo rfl .i64 .i64 L.length (by omega) (by omega)
  have hrm := World.rowIs_made w5 (.bool false) L.length 4
  have hb6 : Below w5.heap.size w5 (w5.alloc (.cells (madeCells #[.bool false] L.length) 4)) := (Below.refl _ _).alloc (Nat.le_refl _) _
  have HW0 : Hid (FillW wA wA.heap.size w3.heap.size g w5.heap.size L.length c3 (fillX (adjB L) (xs.take 0)) (fun i => hasB (xs.take 0) (i : Int)) (w5.alloc (.cells (madeCells #[.bool false] L.length) 4))) := by
    refine ⟨HBT5.out.keep hb6, HO5.out.keep hb6, hrm.congr (fun i _ => ?_), HB5.out.trans (hb6.mono (by omega))⟩
    have : hasB (xs.take 0) (i : Int) = false := hasB_false.2 (by simp)
    rw [this]
  have hg3 : g < w3.heap.size := hgs
  have hgA : wA.heap.size ≤ g := hBg
  clear hb5 hrm hb6 HO4 HBT4 HB4 HO5 HBT5 k3 k4 HB3
  go_wp2_with fail
  go_loopw [7] (fun i wr => ∃ k : Nat, k ≤ xs.length ∧ i = .int .i64 k ∧ w5.heap.size < wr.heap.size ∧ FillW wA wA.heap.size w3.heap.size g w5.heap.size L.length c3 (fillX (adjB L) (xs.take k)) (fun i => hasB (xs.take k) (i : Int)) wr) (fun i _ => xs.length - (intOf i).toNat)
  case atStart => exact ⟨0, Nat.zero_le _, rfl, by simp, HW0.out⟩
  case round =>
    obtain ⟨k, hk, rfl, hzr, hw⟩ := hrel
    have HW := Lib.hid hw
    by_cases hlt : k < xs.length
    · obtain ⟨u, hu, eu⟩ := HV.out k hlt
      have hck : wr.cell? ⟨bx, ox + k, none⟩ = some (.int .i64 (u : Int)) := by
        have := cell_keep (HB2.out.trans (hw.bel.mono (by have := HSZA.out; omega))) (HCX.out k hlt)
        rw [eu] at this; exact this
      have kg := hw.gone.cell hu
      have kf := hw.gone.frozen u
      have huI : (u : Int) < (L.length : Int) := by omega
      have HT : Hid (xs.take (k + 1) = xs.take k ++ [(u : Int)]) := by show _ = _; rw [take_snoc hlt, eu]
      have HW4 : Hid (FillW wA wA.heap.size w3.heap.size g w5.heap.size L.length c3 (fillX (adjB L) (xs.take k)) (fun i => hasB (xs.take (k + 1)) (i : Int)) (wr.setCell ⟨w5.heap.size, u, none⟩ (.bool true))) := by
        refine (hw.flag u (by omega) (by omega)).congr rfl (fun i _ => ?_)
        rw [HT.out]; exact hasB_more
      have hbA : w.heap.size < wA.heap.size := by have := HSZA.out; omega
      have HKX : Hid (∀ W, Below wA.heap.size wA W → W.cell? ⟨bx, ox + k, none⟩ = some (.int .i64 (u : Int))) := fun W hb => by
        have := cell_keep (HB2.out.trans (hb.mono (by omega))) (HCX.out k hlt)
        rw [eu] at this; exact this
      have hszr : (wr.setCell ⟨w5.heap.size, u, none⟩ (.bool true)).heap.size = wr.heap.size := size_setCell1 _ _ _
      have HZR : Hid (w5.heap.size < (wr.setCell ⟨w5.heap.size, u, none⟩ (.bool true)).heap.size) := by show _ < _; rw [hszr]; exact hzr
      clear hw HW hszr
      go_wp2_with fail
      clear kg kf hck
      generalize wr.setCell ⟨w5.heap.size, u, none⟩ (.bool true) = w6 at HW4 HZR ⊢
      have k6 := HW4.out.out.box.1
      have f6 := HW4.out.out.box.2
      have x6 := HKX.out _ HW4.out.bel
      have HWD := Lib.hid (HW4.out.keep (Below.refl _ _).drew (by have := HZR.out; omega))
      go_region_law (first
        | (go_simp; go_at_call 56; refine (l7Left_work HWD.out (HREL.out _) hz hu).mono ?_; rintro e w7 ⟨n7, a7, c7, rfl, ho7, hb7⟩; have HW7 := Lib.hid (HWD.out.keep hb7 (by have := HZR.out; show _ ≤ w6.heap.size; omega)); have k7 := HW7.out.out.box.1; have f7 := HW7.out.out.box.2; have x7 := HKX.out _ HW7.out.bel; have HO7 : Hid (OwnRow 2 w7 w6.heap.size (.slice a7 n7 c7) (listM (pm (leftB (fillX (adjB L) (xs.take k)) (xs.take (k + 1)) u)))) := ho7; have HZ7 : Hid (w6.heap.size ≤ w7.heap.size) := hb7.size; clear ho7 hb7)
        | (go_simp; go_at_call 72; refine (l7Clique_any g L.length c3 wA.heap.size w6.heap.size _ _ _ w7 HW7.out.gr (by have := HZR.out; have := HZ7.out; omega) (by have := HZR.out; have := HZ7.out; omega) hz HO7.out (by have := HZR.out; omega) (leftB_range (HREL.out _) _ _)).mono ?_; rintro e w8 ⟨rfl, ho8, hb8, hz8, ht8⟩; obtain ⟨bt8, hw8⟩ := HW7.out.turned ho8 hb8 ht8 (by omega) (by omega) (by omega) (by omega); have k8 := bt8.box.1; have f8 := bt8.box.2; have HW8 := Lib.hid hw8; have HZ8 : Hid (w5.heap.size < w8.heap.size) := (by show _ < _; have := HZR.out; have := HZ7.out; omega); clear bt8 hw8 ho8 hb8 hz8 ht8))
      all_goals (
        clear k7 f7 x7 k6 f6 x6 k8 f8
        go_wp2
        go_roundw
        case rel =>
          refine ⟨k + 1, by omega, by go_num, by rw [size_setCell1]; exact HZ8.out, HW8.out.congr ?_ (fun _ _ => rfl)⟩
          rw [HT.out, fillX_snoc, Int.toNat_natCast]
        case measure => simp [intOf]; omega)
    · obtain rfl : k = xs.length := by omega
      have kb := hw.out.box.1
      have hbA : w.heap.size + 1 < wA.heap.size := by have := HSZA.out; omega
      have hres := HRES.out.keepB hw.bel hbA
      have kr := hres.box.1
      have kf := hres.box.2
      have HR2 := Lib.hid hres
      clear hw hres
      go_wp2
      have q0 : (wr.setCell ⟨w.heap.size + 1, 0, none⟩ (.slice (some ⟨g, 0, none⟩) L.length c3)).cell? ⟨w.heap.size + 1, 0, none⟩ = some (.slice (some ⟨g, 0, none⟩) L.length c3) := cell_set_same _ HR2.out.box.1
      refine bodyPost_ret (v := .agg #[.slice (some ⟨g, 0, none⟩) L.length c3]) (by simp [results, Try.results54, go_sem, q0]) rfl ⟨_, _, _, rfl, ?_, (HB2.out.trans (HW.out.bel.mono (by omega))).setCell (by simp) _⟩
      have ho := HW.out.gr
      rw [List.take_length] at ho
      exact (ho.setType HR2.out (by decide) (by decide) 0 _).mono (by omega)

end Go.Proofs.Ytohjfcfcopbmoaa
