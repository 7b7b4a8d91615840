/- The texts ER9, ER10, ER11, joined. -/
import Derived.Test.YtmfolclpddoplaaQER6
import Derived.Test.YtmfolclpddoplaaQF6

/- Walks: FillOf and LaterOf of the program. -/
namespace Go.Proofs.Ytmfolclpddoplaa
open Go.RowKit

/-- The graph with the later neighbours of the vertices below v, and of v the first k, linked. -/
def linkTo (A : Nat → Nat → Bool) (xs : List Int) (v : Nat) (ys : List Int) (k i j : Nat) : Bool :=
  A i j || (decide (i < v) && laterA A xs i j) || (decide (j < v) && laterA A xs j i) || (i == v && hasB (ys.take k) (j : Int)) || (j == v && hasB (ys.take k) (i : Int))
theorem linkTo_zero (A : Nat → Nat → Bool) (xs : List Int) (ys : List Int) : linkTo A xs 0 ys 0 = A := by
  funext i j
  unfold linkTo
  have h : ∀ z : Int, hasB (ys.take 0) z = false := fun z => hasB_false.2 (by simp)
  rw [h, h]; simp
theorem linkTo_step (A : Nat → Nat → Bool) (xs : List Int) {v k u : Nat} {ys : List Int} (hk : k < ys.length) (e : nth ys k = (u : Int)) : linkTo A xs v ys (k + 1) = linkA (linkTo A xs v ys k) v u := by
  funext i j
  show linkTo A xs v ys (k + 1) i j = (linkTo A xs v ys k i j || (i == v && j == u) || (i == u && j == v))
  unfold linkTo
  rw [take_snoc hk, e, hasB_snoc, hasB_snoc]
  have e1 : ∀ i : Nat, ((i : Int) == (u : Int)) = (i == u) := fun i => by rw [Bool.eq_iff_iff, beq_iff_eq, beq_iff_eq]; omega
  rw [e1, e1]
  cases A i j <;> cases (decide (i < v) && laterA A xs i j) <;> cases (decide (j < v) && laterA A xs j i) <;> cases (i == v) <;> cases (j == v) <;> cases hasB (ys.take k) (i : Int) <;> cases hasB (ys.take k) (j : Int) <;> cases (i == u) <;> cases (j == u) <;> rfl
theorem linkTo_next {A : Nat → Nat → Bool} {n : Nat} (hA : RelP n A) (hn : n ≤ 16) (xs : List Int) {v : Nat} {ys : List Int} (hys : ys = listM (pm (laterA A xs v))) (zs : List Int) : linkTo A xs v ys ys.length = linkTo A xs (v + 1) zs 0 := by
  funext i j
  unfold linkTo
  have h0 : ∀ z : Int, hasB (zs.take 0) z = false := fun z => hasB_false.2 (by simp)
  rw [h0, h0, List.take_length]
  have h1 : ∀ j : Nat, hasB ys (j : Int) = laterA A xs v j := fun j => by
    rw [Bool.eq_iff_iff, hasB_mem, hys, listM_mem]
    constructor
    · rintro ⟨q, hq, hb, e⟩
      have : q = j := by omega
      subst this
      rw [pm_bit, Bool.and_eq_true] at hb
      exact hb.2
    · intro hw
      have hj := (later_range hA hw).2
      exact ⟨j, by omega, by rw [pm_bit, hw]; simp; omega, rfl⟩
  rw [h1, h1]
  have e2 : ∀ i : Nat, decide (i < v + 1) = (decide (i < v) || i == v) := fun i => by
    rw [Bool.eq_iff_iff]; simp; omega
  rw [e2, e2]
  by_cases c1 : i = v
  · subst c1
    by_cases c2 : j = i
    · subst c2; simp
    · have : (j == i) = false := by rw [beq_eq_false_iff_ne]; exact c2
      rw [this]; simp
      cases A i j <;> cases (decide (j < i) && laterA A xs j i) <;> simp
  · have d1 : (i == v) = false := by rw [beq_eq_false_iff_ne]; exact c1
    by_cases c2 : j = v
    · subst c2
      rw [d1]; simp
    · have d2 : (j == v) = false := by rw [beq_eq_false_iff_ne]; exact c2
      rw [d1, d2]; simp
theorem linkTo_all {A : Nat → Nat → Bool} {n : Nat} (hA : RelP n A) {xs : List Int} (hO : OrdP xs n) (hn : n ≤ 16) (zs : List Int) : linkTo A xs 16 zs 0 = fillX A xs := by
  funext i j
  unfold linkTo
  have h0 : ∀ z : Int, hasB (zs.take 0) z = false := fun z => hasB_false.2 (by simp)
  rw [h0, h0]
  obtain ⟨p1, p2⟩ := later_or hA hO i j
  have q1 : (decide (i < 16) && laterA A xs i j) = laterA A xs i j := by
    cases h : laterA A xs i j with
    | false => simp
    | true => have := (later_range hA h).1; simp; omega
  have q2 : (decide (j < 16) && laterA A xs j i) = laterA A xs j i := by
    cases h : laterA A xs j i with
    | false => simp
    | true => have := (later_range hA h).1; simp; omega
  rw [q1, q2, p1]
  cases ha : A i j with
  | false => simp
  | true =>
    have := fill_old A xs ha
    rw [p1] at this
    rw [this]; simp

end Go.Proofs.Ytmfolclpddoplaa

/- Walks: LaterOf of the program. -/
namespace Go.Proofs.Ytmfolclpddoplaa
open Go.RowKit

/-- The rows of the first k vertices. -/
def rwsTo (A : Nat → Nat → Bool) (xs : List Int) (k i j : Nat) : Bool := decide (i < k) && laterA A xs i j
theorem rwsTo_zero (n : Nat) (A : Nat → Nat → Bool) (xs : List Int) (M : Nat → Nat) : partL n M 0 = adjL n (rwsTo A xs 0) := by
  apply nthR_ext
  · rw [partL_len, adjL_len]
  · intro i hi
    rw [partL_len] at hi
    rw [partL_nth M 0 hi, if_neg (by omega), adjL_nth _ hi]
    have : rwsTo A xs 0 i = fun _ => false := by
      funext j
      unfold rwsTo
      simp
    rw [this, pm_false, listM_zero]
theorem rwsTo_next (A : Nat → Nat → Bool) (n : Nat) (xs : List Int) (k : Nat) : (adjL n (rwsTo A xs k)).set k (listM (pm (laterA A xs k))) = adjL n (rwsTo A xs (k + 1)) := by
  have hu : rwsTo A xs (k + 1) k = laterA A xs k := by
    funext j
    unfold rwsTo
    simp
  rw [← hu]
  refine adjL_set (fun i _ hi j _ => ?_)
  unfold rwsTo
  have : decide (i < k + 1) = decide (i < k) := by rw [Bool.eq_iff_iff]; simp; omega
  rw [this]
theorem rwsTo_all (A : Nat → Nat → Bool) (n : Nat) (xs : List Int) : adjL n (rwsTo A xs n) = adjL n (laterA A xs) := by
  refine adjL_congr (fun i hi j _ => ?_)
  unfold rwsTo
  simp [hi]
/-- At work: the masks, the rows so far. -/
structure RowsW (w0 : World) (mb gr n : Nat) (M : Nat → Nat) (R : Nat → Nat → Bool) (w : World) : Prop where
  masks : w.rowIs mb 63 16 (fun i => .int .u32 (M i : Int))
  rows : OwnGrid 2 31 w gr (.slice (some ⟨gr, 0, none⟩) n n) (adjL n R)
  bel : Below w0.heap.size w0 w
theorem RowsW.keep {w0 : World} {mb gr n : Nat} {M : Nat → Nat} {R : Nat → Nat → Bool} {w w' : World} (h : RowsW w0 mb gr n M R w) (hb : Below w.heap.size w w') : RowsW w0 mb gr n M R w' :=
  ⟨rowIs_below h.masks hb, h.rows.keep hb, h.bel.trans (hb.mono h.bel.size)⟩
theorem RowsW.put {w0 w w8 : World} {mb gr n u m : Nat} {M : Nat → Nat} {R R' : Nat → Nat → Bool} {q : Nat → Bool} {a : Option Addr} {c : Nat} (h : RowsW w0 mb gr n M R w) (hb : Below w.heap.size w w8) (ho : OwnRow 2 w8 w.heap.size (.slice a m c) (listM (pm q)))
    (e : (adjL n R).set u (listM (pm q)) = adjL n R') (hu : u < n) (hne : mb ≠ gr) (hz : w0.heap.size ≤ gr) : RowsW w0 mb gr n M R' (w8.setCell ⟨gr, u, none⟩ (.slice a m c)) := by
  obtain ⟨cur, hcur⟩ := h.rows.blkT
  have hgr := (Array.getElem?_eq_some_iff.1 hcur).1
  have hr := OwnGrid.setRow (w := w) (w' := w8) (by decide) h.rows hb (by rw [adjL_len]; exact hu) (ho.mono (Nat.le_of_lt hgr)) (fun k hk => Or.inl (ho.lt k hk).1)
  rw [e] at hr
  exact ⟨(rowIs_below h.masks hb).setOther (a := ⟨gr, u, none⟩) hne _, hr, (h.bel.trans (hb.mono h.bel.size)).setCell hz _⟩

set_option maxHeartbeats 2000000 in
set_option maxRecDepth 100000 in
theorem implLaterOf_any (v v1 : Value) (L : List (List Int)) (xs : List Int) (w : World) (h : GridAt w v L) (h1 : RowAt w v1 xs) : Calls Try.prog 25 #[.agg #[v], v1] w (GaveGrid w (laterL L xs)) := by
  obtain ⟨a0, c0, rfl⟩ := h.slice
  have HGK : Hid (∀ w', Below w.heap.size w w' → GridAt w' (.slice a0 L.length c0) L) := fun w' hb => h.keep hb
  have HRK : Hid (∀ w', Below w.heap.size w w' → RowAt w' v1 xs) := fun w' hb => h1.keep hb
  have HB0 : Hid (Below w.heap.size w (w.alloc (.cells #[.slice a0 L.length c0] 29))) := (Below.refl _ _).alloc (Nat.le_refl _) _
  have HX0 : Hid (BoxAt (w.alloc (.cells #[.slice a0 L.length c0] 29)) w.heap.size (.slice a0 L.length c0)) := BoxAt.new _ _ _
  clear h h1
  go_enter Try.func25, Try.ntmps25
  go_wp2_with fail
  refine (orderedNet_any _ _ L xs _ (HGK.out _ HB0.out) (HRK.out _ HB0.out)).mono ?_
  rintro e w1 ⟨rfl, hb1⟩
  have HB1 : Hid (Below w.heap.size w w1) := HB0.out.trans (hb1.mono HB0.out.size)
  have HX1 := Lib.hid (HX0.out.keep hb1)
  have hz1 := HB1.out.size
  have hnb := netBlk_new w1 0 (fun _ => 0)
  clear hb1
  by_cases hok : orderB L xs = true
  · obtain ⟨hG, hO, _, _⟩ := orderB_yes hok
    have hz := hG.1
    have HI := Lib.hid hok
    have HG := Lib.hid hG
    have HO := Lib.hid hO
    have HREL := Lib.hid (adjB_rel hG)
    rw [hok]
    clear hok hG hO
    have hmk2 := run_make_row' (P := Try.prog) 27 31 (.slice none 0 0) 24 Try.underlying27 Try.infoR rfl .i64 .i64 L.length (by omega) (by omega)
    go_wp2_with (refine wpList_store_net rfl 65 (.tmp 5) (.tmp 14) rfl w1.heap.size (ordN L xs) (ordM L xs) rfl rfl Try.sizeNet 0 (fun _ => 0) hnb ?_; intro w3 hp; have HN3 := Lib.hid (ord_net hp.net HI.out); have HB3 : Hid (Below w.heap.size w w3) := (HB1.out.alloc hz1 _).trans (hp.below.mono hz1); have HX3 : Hid (BoxAt w3 w.heap.size (.slice a0 L.length c0)) := (HX1.out.keep ((Below.refl _ _).alloc (Nat.le_refl _) _)).keepB hp.below HX1.out.lt; have hn0 := HN3.out.at.1; clear hp)
    have hog := own_made w3 L.length (fun _ => 0) hz.2
    have hb4 : Below w3.heap.size w3 (w3.alloc (.cells (madeCells #[.slice none 0 0] L.length) 31)) := (Below.refl _ _).alloc (Nat.le_refl _) _
    have HN4 := Lib.hid (HN3.out.keep hb4)
    have HB4 : Hid (Below w.heap.size w (w3.alloc (.cells (madeCells #[.slice none 0 0] L.length) 31))) := HB3.out.trans (hb4.mono HB3.out.size)
    have HOG4 : Hid (OwnGrid 2 31 (w3.alloc (.cells (madeCells #[.slice none 0 0] L.length) 31)) w3.heap.size (.slice (some ⟨w3.heap.size, 0, none⟩) L.length L.length) (adjL L.length (rwsTo (adjB L) xs 0))) := by
      rw [← rwsTo_zero L.length (adjB L) xs (fun _ => 0)]; exact hog
    have HF : Hid (laterL L xs = adjL L.length (laterA (adjB L) xs)) := by show _ = _; unfold laterL; rw [HI.out]; rfl
    have hz3 := HB3.out.size
    clear hog hb4 hnb
    refine (later_any w1.heap.size L.length (adjB L) _ xs _ HN4.out hz HREL.out (HRK.out _ HB4.out) HO.out).mono ?_
    rintro e w5 ⟨rfl, hb5⟩
    obtain ⟨M, hM⟩ : ∃ M : Nat → Nat, M = fun i => pm (laterA (adjB L) xs i) := ⟨_, rfl⟩
    have HME : Hid (∀ k, M k = pm (laterA (adjB L) xs k)) := fun k => by rw [hM]
    have HCS : Hid ((Try.prog.info? 63).map (·.size) = some (maskCells M).toArray.size) := by show _ = _; rw [Try.sizeMs]; simp [maskCells]
    rw [← hM]
    have hs5 : w3.heap.size + 1 ≤ w5.heap.size := by have := hb5.size; rw [size_alloc1] at this; exact this
    have HOG5 := Lib.hid (HOG4.out.keep hb5)
    have HB5 : Hid (Below w.heap.size w w5) := HB4.out.trans (hb5.mono HB4.out.size)
    have HNEW : Hid ((w5.alloc (.cells (maskCells (fun _ => 0)).toArray 63)).heap[w5.heap.size]? = some (.cells (maskCells (fun _ => 0)).toArray 63 (0, 0))) := heap_alloc_new _ _
    clear hb5 hM hn0 HN4 HN3
    go_wp2_with (refine wpList_store_row rfl 63 (.tmp 8) (.tmp 22) rfl w5.heap.size (maskCells M).toArray rfl rfl 63 (maskCells (fun _ => 0)).toArray HNEW.out HCS.out (by simp [maskCells]) (mask_one _) ?_)
    change Code.wp _ _ _ _ (World.setRow (w5.alloc (.cells (maskCells (fun _ => 0)).toArray 63)) w5.heap.size (maskCells M).toArray)
    obtain ⟨w6, hw6⟩ : ∃ w6, w6 = World.setRow (w5.alloc (.cells (maskCells (fun _ => 0)).toArray 63)) w5.heap.size (maskCells M).toArray := ⟨_, rfl⟩
    have HW0 : Hid (RowsW w w5.heap.size w3.heap.size L.length M (rwsTo (adjB L) xs 0) w6) := by
      have hb6 : Below w5.heap.size w5 w6 := by
        rw [hw6]
        exact ((Below.refl _ _).alloc (Nat.le_refl _) _).trans ⟨rfl, rfl, rfl, by simp [World.setRow], fun k hk => setRow_other _ w5.heap.size k _ (by omega)⟩
      refine ⟨⟨(maskCells M).toArray, ?_, by simp [maskCells], fun i hi => by rw [List.getElem?_toArray, maskCells_get _ hi]⟩, HOG5.out.keep hb6, HB5.out.trans (hb6.mono HB5.out.size)⟩
      rw [hw6]
      exact setRow_heap _ _ _ _ 63 _ HNEW.out
    rw [← hw6]
    clear hw6 HNEW HOG5 HB5
    go_wp2_with fail
    go_loopw [25] (fun i wr => ∃ k : Nat, k ≤ L.length ∧ i = .int .i64 k ∧ RowsW w w5.heap.size w3.heap.size L.length M (rwsTo (adjB L) xs k) wr) (fun i _ => L.length - (intOf i).toNat)
    case atStart => exact ⟨0, Nat.zero_le _, rfl, HW0.out⟩
    case round =>
      obtain ⟨k, hk, rfl, hw⟩ := hrel
      have HW := Lib.hid hw
      by_cases hlt : k < L.length
      · have hk16 : k < 16 := by omega
        have hkI : (k : Int) < 16 := by omega
        have hkL : (k : Int) < (L.length : Int) := by omega
        have km := hw.masks.cell hk16
        have hml : M k < 65536 := by rw [HME.out]; exact pm_lt _
        have HNX : Hid ((adjL L.length (rwsTo (adjB L) xs k)).set k (listM (pm (laterA (adjB L) xs k))) = adjL L.length (rwsTo (adjB L) xs (k + 1))) := rwsTo_next _ _ _ _
        clear hw
        go_wp2_with fail
        refine (list_any (M k) _ hml).mono ?_
        rintro e w8 ⟨n8, a8, c8, rfl, ho8, hb8⟩
        rw [HME.out] at ho8
        obtain ⟨g8, cap8, eo8, _, _, hcell8⟩ := (HW.out.keep hb8).rows.place (by rw [adjL_len]; omega)
        simp only [adjL_len, Value.slice.injEq, Option.some.injEq, Addr.mk.injEq, and_true, true_and] at eo8
        have eo1 := eo8.1
        clear eo8
        rw [← eo1] at hcell8
        clear eo1
        obtain ⟨_, _, _, ko8, fo8, _⟩ := hcell8 k (by rw [adjL_len]; exact hlt)
        have HEND : Hid (RowsW w w5.heap.size w3.heap.size L.length M (rwsTo (adjB L) xs (k + 1)) (w8.setCell ⟨w3.heap.size, k, none⟩ (.slice a8 n8 c8))) := HW.out.put hb8 ho8 HNX.out hlt (by omega) (by omega)
        clear hcell8 ho8 hb8 km
        go_wp2
        go_roundw
        case rel => exact ⟨k + 1, by omega, by go_num, HEND.out⟩
        case measure => simp [intOf]; omega
      · obtain rfl : k = L.length := by omega
        clear hw
        go_wp2
        go_ret
        refine ⟨_, _, _, rfl, ?_, HW.out.bel⟩
        rw [HF.out, ← rwsTo_all]
        exact HW.out.rows.mono (by omega)
  · have hok' : orderB L xs = false := by simpa using hok
    have HI := Lib.hid hok'
    rw [hok']
    clear hok hok'
    go_wp2_with (refine wpList_store_net rfl 65 (.tmp 5) (.tmp 14) rfl w1.heap.size (ordN L xs) (ordM L xs) rfl rfl Try.sizeNet 0 (fun _ => 0) hnb ?_; intro w3 hp; have HB3 : Hid (Below w.heap.size w w3) := (HB1.out.alloc hz1 _).trans (hp.below.mono hz1); clear hp)
    go_ret
    exact ⟨0, none, 0, rfl, by rw [laterL_no HI.out]; exact own_nil _ _, HB3.out⟩

end Go.Proofs.Ytmfolclpddoplaa

/- Walks: OrderWidth of the program. -/
namespace Go.Proofs.Ytmfolclpddoplaa
open Go.RowKit

set_option maxHeartbeats 2000000 in
set_option maxRecDepth 100000 in
theorem implOrderWidth_any (v v1 : Value) (L : List (List Int)) (xs : List Int) (w : World) (h : GridAt w v L) (h1 : RowAt w v1 xs) : Calls Try.prog 26 #[.agg #[v], v1] w fun e w' => e = .returned (.int .i64 (widthI L xs)) ∧ Below w.heap.size w w' := by
  obtain ⟨a0, c0, rfl⟩ := h.slice
  have HGK : Hid (∀ w', Below w.heap.size w w' → GridAt w' (.slice a0 L.length c0) L) := fun w' hb => h.keep hb
  have HRK : Hid (∀ w', Below w.heap.size w w' → RowAt w' v1 xs) := fun w' hb => h1.keep hb
  have HB0 : Hid (Below w.heap.size w (w.alloc (.cells #[.slice a0 L.length c0] 29))) := (Below.refl _ _).alloc (Nat.le_refl _) _
  have HX0 : Hid (BoxAt (w.alloc (.cells #[.slice a0 L.length c0] 29)) w.heap.size (.slice a0 L.length c0)) := BoxAt.new _ _ _
  clear h h1
  go_enter Try.func26, Try.ntmps26
  go_wp2_with fail
  refine (orderedNet_any _ _ L xs _ (HGK.out _ HB0.out) (HRK.out _ HB0.out)).mono ?_
  rintro e w1 ⟨rfl, hb1⟩
  have HB1 : Hid (Below w.heap.size w w1) := HB0.out.trans (hb1.mono HB0.out.size)
  have HX1 := Lib.hid (HX0.out.keep hb1)
  have hz1 := HB1.out.size
  have hnb := netBlk_new w1 0 (fun _ => 0)
  clear hb1
  by_cases hok : orderB L xs = true
  · obtain ⟨hG, hO, _, _⟩ := orderB_yes hok
    have hz := hG.1
    have HI := Lib.hid hok
    have HG := Lib.hid hG
    have HO := Lib.hid hO
    have HREL := Lib.hid (adjB_rel hG)
    rw [hok]
    clear hok hG hO
    go_wp2_with (refine wpList_store_net rfl 65 (.tmp 5) (.tmp 14) rfl w1.heap.size (ordN L xs) (ordM L xs) rfl rfl Try.sizeNet 0 (fun _ => 0) hnb ?_; intro w3 hp; have HN3 := Lib.hid (ord_net hp.net HI.out); have HB3 : Hid (Below w.heap.size w w3) := (HB1.out.alloc hz1 _).trans (hp.below.mono hz1); have HX3 : Hid (BoxAt w3 w.heap.size (.slice a0 L.length c0)) := (HX1.out.keep ((Below.refl _ _).alloc (Nat.le_refl _) _)).keepB hp.below HX1.out.lt; clear hp)
    refine (later_any w1.heap.size L.length (adjB L) _ xs _ HN3.out hz HREL.out (HRK.out _ HB3.out) HO.out).mono ?_
    rintro e w4 ⟨rfl, hb4⟩
    obtain ⟨M, hM⟩ : ∃ M : Nat → Nat, M = fun i => pm (laterA (adjB L) xs i) := ⟨_, rfl⟩
    have HML : Hid (∀ k, M k < 65536) := fun k => by rw [hM]; exact pm_lt _
    rw [← hM]
    have HB4 : Hid (Below w.heap.size w w4) := HB3.out.trans (hb4.mono HB3.out.size)
    have HX4 := Lib.hid (HX3.out.keep hb4)
    clear hb4 hnb
    have HW : Hid (∀ q, q = 16 → maxTo (fun i => bitsTo (M i) 16) q = widthX (adjB L) xs L.length) := fun q hq => by rw [hq, hM]; exact lat_max HREL.out hz.2 xs
    clear hM
    have HF : Hid (widthI L xs = (widthX (adjB L) xs L.length : Int)) := by show _ = _; unfold widthI; rw [HI.out]; rfl
    go_wp2_with fail
    go_loopw [7, 20] (fun s i wr => ∃ k : Nat, k ≤ 16 ∧ i = .int .i64 k ∧ s = .int .i64 ((maxTo (fun i => bitsTo (M i) 16) k : Nat) : Int) ∧ Drawn w4 wr) (fun _ i _ => 16 - (intOf i).toNat)
    case atStart => exact ⟨0, Nat.zero_le _, rfl, rfl, Drawn.refl _⟩
    case round =>
      obtain ⟨k, hk, rfl, rfl, hd⟩ := hrel
      have HS : Hid (True → maxTo (fun i => bitsTo (M i) 16) (k + 1) = max (maxTo (fun i => bitsTo (M i) 16) k) (bitsTo (M k) 16)) := fun _ => rfl
      obtain ⟨s, hs⟩ : ∃ s, s = maxTo (fun i => bitsTo (M i) 16) k := ⟨_, rfl⟩
      have HSS : Hid (True → s = maxTo (fun i => bitsTo (M i) 16) k) := fun _ => hs
      rw [← hs] at HS ⊢
      clear hs
      have HD := Lib.hid hd
      by_cases hlt : k < 16
      · have hltI : (k : Int) < 16 := by omega
        have hix := run_index_masks M k hlt
        have hml := HML.out k
        clear hd
        go_wp2_with fail
        refine (size_any _ _ hml).mono ?_
        rintro e w5 ⟨rfl, hd5⟩
        have HD5 := Lib.hid (HD.out.trans hd5)
        obtain ⟨r, hr⟩ : ∃ r, r = bitsTo (M k) 16 := ⟨_, rfl⟩
        rw [← hr] at HS ⊢
        clear hd5 hix hr
        go_wp2
        go_roundw
        case rel => exact ⟨k + 1, by omega, by go_num, by rw [HS.out trivial]; congr 1; omega, HD5.out⟩
        case measure => simp [intOf]; omega
      · obtain rfl : k = 16 := by omega
        have HS2 : Hid (True → s = widthX (adjB L) xs L.length) := fun _ => by rw [HSS.out trivial]; exact HW.out _ rfl
        clear hd
        go_wp2
        go_ret
        exact ⟨ret_int (by rw [HF.out, HS2.out trivial]), HB4.out.trans (HD.out.below _ |>.mono HB4.out.size)⟩
  · have hok' : orderB L xs = false := by simpa using hok
    have HI : Hid (widthI L xs = -1) := by show _ = _; unfold widthI; rw [hok']; rfl
    rw [hok']
    clear hok hok'
    go_wp2_with (refine wpList_store_net rfl 65 (.tmp 5) (.tmp 14) rfl w1.heap.size (ordN L xs) (ordM L xs) rfl rfl Try.sizeNet 0 (fun _ => 0) hnb ?_; intro w3 hp; have HB3 : Hid (Below w.heap.size w w3) := (HB1.out.alloc hz1 _).trans (hp.below.mono hz1); clear hp)
    go_ret
    exact ⟨ret_int HI.out.symm, HB3.out⟩

end Go.Proofs.Ytmfolclpddoplaa
