/- Walks: LaterOf of the program. -/
import Derived.Test.YtgnmggjihkfnoaaQER6
import Derived.Test.YtgnmggjihkfnoaaQF6

namespace Go.Proofs.Ytgnmggjihkfnoaa
open Go.RowKit

/-- The rows of the first k vertices. -/
def rwsTo (A : Nat → Nat → Bool) (xs : List Int) (k i j : Nat) : Bool := decide (i < k) && laterA A xs i j
theorem rwsTo_zero (n : Nat) (A : Nat → Nat → Bool) (xs : List Int) (M : Nat → Nat) : partL n M 0 = adjL n (rwsTo A xs 0) := by
  apply nthR_ext
  · rw [partL_len, adjL_len]
  · intro i hi
    rw [partL_len] at hi
    rw [partL_nth M 0 hi, if_neg (by omega), adjL_nth _ hi]
    have : rwsTo A xs 0 i = fun _ => false := by
      funext j
      unfold rwsTo
      simp
    rw [this, pm_false, listM_zero]
theorem rwsTo_next (A : Nat → Nat → Bool) (n : Nat) (xs : List Int) (k : Nat) : (adjL n (rwsTo A xs k)).set k (listM (pm (laterA A xs k))) = adjL n (rwsTo A xs (k + 1)) := by
  have hu : rwsTo A xs (k + 1) k = laterA A xs k := by
    funext j
    unfold rwsTo
    simp
  rw [← hu]
  refine adjL_set (fun i _ hi j _ => ?_)
  unfold rwsTo
  have : decide (i < k + 1) = decide (i < k) := by rw [Bool.eq_iff_iff]; simp; omega
  rw [this]
theorem rwsTo_all (A : Nat → Nat → Bool) (n : Nat) (xs : List Int) : adjL n (rwsTo A xs n) = adjL n (laterA A xs) := by
  refine adjL_congr (fun i hi j _ => ?_)
  unfold rwsTo
  simp [hi]
/-- At work: the masks, the rows so far. -/
structure RowsW (w0 : World) (mb gr n : Nat) (M : Nat → Nat) (R : Nat → Nat → Bool) (w : World) : Prop where
  masks : w.rowIs mb 61 16 (fun i => .int .u32 (M i : Int))
  rows : OwnGrid 2 31 w gr (.slice (some ⟨gr, 0, none⟩) n n) (adjL n R)
  bel : Below w0.heap.size w0 w
theorem RowsW.keep {w0 : World} {mb gr n : Nat} {M : Nat → Nat} {R : Nat → Nat → Bool} {w w' : World} (h : RowsW w0 mb gr n M R w) (hb : Below w.heap.size w w') : RowsW w0 mb gr n M R w' :=
  ⟨rowIs_below h.masks hb, h.rows.keep hb, h.bel.trans (hb.mono h.bel.size)⟩
theorem RowsW.put {w0 w w8 : World} {mb gr n u m : Nat} {M : Nat → Nat} {R R' : Nat → Nat → Bool} {q : Nat → Bool} {a : Option Addr} {c : Nat} (h : RowsW w0 mb gr n M R w) (hb : Below w.heap.size w w8) (ho : OwnRow 2 w8 w.heap.size (.slice a m c) (listM (pm q)))
    (e : (adjL n R).set u (listM (pm q)) = adjL n R') (hu : u < n) (hne : mb ≠ gr) (hz : w0.heap.size ≤ gr) : RowsW w0 mb gr n M R' (w8.setCell ⟨gr, u, none⟩ (.slice a m c)) := by
  obtain ⟨cur, hcur⟩ := h.rows.blkT
  have hgr := (Array.getElem?_eq_some_iff.1 hcur).1
  have hr := OwnGrid.setRow (w := w) (w' := w8) (by decide) h.rows hb (by rw [adjL_len]; exact hu) (ho.mono (Nat.le_of_lt hgr)) (fun k hk => Or.inl (ho.lt k hk).1)
  rw [e] at hr
  exact ⟨(rowIs_below h.masks hb).setOther (a := ⟨gr, u, none⟩) hne _, hr, (h.bel.trans (hb.mono h.bel.size)).setCell hz _⟩

set_option maxHeartbeats 2000000 in
set_option maxRecDepth 100000 in
theorem implLaterOf_any (v v1 : Value) (L : List (List Int)) (xs : List Int) (w : World) (h : GridAt w v L) (h1 : RowAt w v1 xs) : Calls Try.prog 35 #[.agg #[v], v1] w (GaveGrid w (laterL L xs)) := by
  obtain ⟨a0, c0, rfl⟩ := h.slice
  have HGK : Hid (∀ w', Below w.heap.size w w' → GridAt w' (.slice a0 L.length c0) L) := fun w' hb => h.keep hb
  have HRK : Hid (∀ w', Below w.heap.size w w' → RowAt w' v1 xs) := fun w' hb => h1.keep hb
  have HB0 : Hid (Below w.heap.size w (w.alloc (.cells #[.slice a0 L.length c0] 29))) := (Below.refl _ _).alloc (Nat.le_refl _) _
  have HX0 : Hid (BoxAt (w.alloc (.cells #[.slice a0 L.length c0] 29)) w.heap.size (.slice a0 L.length c0)) := BoxAt.new _ _ _
  clear h h1
  go_enter Try.func35, Try.ntmps35
  go_wp2_with fail
  refine (orderedNet_any _ _ L xs _ (HGK.out _ HB0.out) (HRK.out _ HB0.out)).mono ?_
  rintro e w1 ⟨rfl, hb1⟩
  have HB1 : Hid (Below w.heap.size w w1) := HB0.out.trans (hb1.mono HB0.out.size)
  have HX1 := Lib.hid (HX0.out.keep hb1)
  have hz1 := HB1.out.size
  have hnb := netBlk_new w1 0 (fun _ => 0)
  clear hb1
  by_cases hok : orderB L xs = true
  · obtain ⟨hG, hO, _, _⟩ := orderB_yes hok
    have hz := hG.1
    have HI := Lib.hid hok
    have HG := Lib.hid hG
    have HO := Lib.hid hO
    have HREL := Lib.hid (adjB_rel hG)
    rw [hok]
    clear hok hG hO
    have hmk2 := run_make_row' (P := Try.prog) 27 31 (.slice none 0 0) 24 Try.underlying27 Try.infoR rfl .i64 .i64 L.length (by omega) (by omega)
    go_wp2_with (refine wpList_store_net rfl 63 (.tmp 5) (.tmp 14) rfl w1.heap.size (ordN L xs) (ordM L xs) rfl rfl Try.sizeNet 0 (fun _ => 0) hnb ?_; intro w3 hp; have HN3 := Lib.hid (ord_net hp.net HI.out); have HB3 : Hid (Below w.heap.size w w3) := (HB1.out.alloc hz1 _).trans (hp.below.mono hz1); have HX3 : Hid (BoxAt w3 w.heap.size (.slice a0 L.length c0)) := (HX1.out.keep ((Below.refl _ _).alloc (Nat.le_refl _) _)).keepB hp.below HX1.out.lt; have hn0 := HN3.out.at.1; clear hp)
    have hog := own_made w3 L.length (fun _ => 0) hz.2
    have hb4 : Below w3.heap.size w3 (w3.alloc (.cells (madeCells #[.slice none 0 0] L.length) 31)) := (Below.refl _ _).alloc (Nat.le_refl _) _
    have HN4 := Lib.hid (HN3.out.keep hb4)
    have HB4 : Hid (Below w.heap.size w (w3.alloc (.cells (madeCells #[.slice none 0 0] L.length) 31))) := HB3.out.trans (hb4.mono HB3.out.size)
    have HOG4 : Hid (OwnGrid 2 31 (w3.alloc (.cells (madeCells #[.slice none 0 0] L.length) 31)) w3.heap.size (.slice (some ⟨w3.heap.size, 0, none⟩) L.length L.length) (adjL L.length (rwsTo (adjB L) xs 0))) := by
      rw [← rwsTo_zero L.length (adjB L) xs (fun _ => 0)]; exact hog
    have HF : Hid (laterL L xs = adjL L.length (laterA (adjB L) xs)) := by show _ = _; unfold laterL; rw [HI.out]; rfl
    have hz3 := HB3.out.size
    clear hog hb4 hnb
    refine (later_any w1.heap.size L.length (adjB L) _ xs _ HN4.out hz HREL.out (HRK.out _ HB4.out) HO.out).mono ?_
    rintro e w5 ⟨rfl, hb5⟩
    obtain ⟨M, hM⟩ : ∃ M : Nat → Nat, M = fun i => pm (laterA (adjB L) xs i) := ⟨_, rfl⟩
    have HME : Hid (∀ k, M k = pm (laterA (adjB L) xs k)) := fun k => by rw [hM]
    have HCS : Hid ((Try.prog.info? 61).map (·.size) = some (maskCells M).toArray.size) := by show _ = _; rw [Try.sizeMs]; simp [maskCells]
    rw [← hM]
    have hs5 : w3.heap.size + 1 ≤ w5.heap.size := by have := hb5.size; rw [size_alloc1] at this; exact this
    have HOG5 := Lib.hid (HOG4.out.keep hb5)
    have HB5 : Hid (Below w.heap.size w w5) := HB4.out.trans (hb5.mono HB4.out.size)
    have HNEW : Hid ((w5.alloc (.cells (maskCells (fun _ => 0)).toArray 61)).heap[w5.heap.size]? = some (.cells (maskCells (fun _ => 0)).toArray 61 (0, 0))) := heap_alloc_new _ _
    clear hb5 hM hn0 HN4 HN3
    go_wp2_with (refine wpList_store_row rfl 61 (.tmp 8) (.tmp 22) rfl w5.heap.size (maskCells M).toArray rfl rfl 61 (maskCells (fun _ => 0)).toArray HNEW.out HCS.out (by simp [maskCells]) (mask_one _) ?_)
    change Code.wp _ _ _ _ (World.setRow (w5.alloc (.cells (maskCells (fun _ => 0)).toArray 61)) w5.heap.size (maskCells M).toArray)
    obtain ⟨w6, hw6⟩ : ∃ w6, w6 = World.setRow (w5.alloc (.cells (maskCells (fun _ => 0)).toArray 61)) w5.heap.size (maskCells M).toArray := ⟨_, rfl⟩
    have HW0 : Hid (RowsW w w5.heap.size w3.heap.size L.length M (rwsTo (adjB L) xs 0) w6) := by
      have hb6 : Below w5.heap.size w5 w6 := by
        rw [hw6]
        exact ((Below.refl _ _).alloc (Nat.le_refl _) _).trans ⟨rfl, rfl, rfl, by simp [World.setRow], fun k hk => setRow_other _ w5.heap.size k _ (by omega)⟩
      refine ⟨⟨(maskCells M).toArray, ?_, by simp [maskCells], fun i hi => by rw [List.getElem?_toArray, maskCells_get _ hi]⟩, HOG5.out.keep hb6, HB5.out.trans (hb6.mono HB5.out.size)⟩
      rw [hw6]
      exact setRow_heap _ _ _ _ 61 _ HNEW.out
    rw [← hw6]
    clear hw6 HNEW HOG5 HB5
    go_wp2_with fail
    go_loopw [25] (fun i wr => ∃ k : Nat, k ≤ L.length ∧ i = .int .i64 k ∧ RowsW w w5.heap.size w3.heap.size L.length M (rwsTo (adjB L) xs k) wr) (fun i _ => L.length - (intOf i).toNat)
    case atStart => exact ⟨0, Nat.zero_le _, rfl, HW0.out⟩
    case round =>
      obtain ⟨k, hk, rfl, hw⟩ := hrel
      have HW := Lib.hid hw
      by_cases hlt : k < L.length
      · have hk16 : k < 16 := by omega
        have hkI : (k : Int) < 16 := by omega
        have hkL : (k : Int) < (L.length : Int) := by omega
        have km := hw.masks.cell hk16
        have hml : M k < 65536 := by rw [HME.out]; exact pm_lt _
        have HNX : Hid ((adjL L.length (rwsTo (adjB L) xs k)).set k (listM (pm (laterA (adjB L) xs k))) = adjL L.length (rwsTo (adjB L) xs (k + 1))) := rwsTo_next _ _ _ _
        clear hw
        go_wp2_with fail
        refine (list_any (M k) _ hml).mono ?_
        rintro e w8 ⟨n8, a8, c8, rfl, ho8, hb8⟩
        rw [HME.out] at ho8
        obtain ⟨g8, cap8, eo8, _, _, hcell8⟩ := (HW.out.keep hb8).rows.place (by rw [adjL_len]; omega)
        simp only [adjL_len, Value.slice.injEq, Option.some.injEq, Addr.mk.injEq, and_true, true_and] at eo8
        have eo1 := eo8.1
        clear eo8
        rw [← eo1] at hcell8
        clear eo1
        obtain ⟨_, _, _, ko8, fo8, _⟩ := hcell8 k (by rw [adjL_len]; exact hlt)
        have HEND : Hid (RowsW w w5.heap.size w3.heap.size L.length M (rwsTo (adjB L) xs (k + 1)) (w8.setCell ⟨w3.heap.size, k, none⟩ (.slice a8 n8 c8))) := HW.out.put hb8 ho8 HNX.out hlt (by omega) (by omega)
        clear hcell8 ho8 hb8 km
        go_wp2
        go_roundw
        case rel => exact ⟨k + 1, by omega, by go_num, HEND.out⟩
        case measure => simp [intOf]; omega
      · obtain rfl : k = L.length := by omega
        clear hw
        go_wp2
        go_ret
        refine ⟨_, _, _, rfl, ?_, HW.out.bel⟩
        rw [HF.out, ← rwsTo_all]
        exact HW.out.rows.mono (by omega)
  · have hok' : orderB L xs = false := by simpa using hok
    have HI := Lib.hid hok'
    rw [hok']
    clear hok hok'
    go_wp2_with (refine wpList_store_net rfl 63 (.tmp 5) (.tmp 14) rfl w1.heap.size (ordN L xs) (ordM L xs) rfl rfl Try.sizeNet 0 (fun _ => 0) hnb ?_; intro w3 hp; have HB3 : Hid (Below w.heap.size w w3) := (HB1.out.alloc hz1 _).trans (hp.below.mono hz1); clear hp)
    go_ret
    exact ⟨0, none, 0, rfl, by rw [laterL_no HI.out]; exact own_nil _ _, HB3.out⟩

end Go.Proofs.Ytgnmggjihkfnoaa
