/- The texts ER6, ER7, ER8, joined. -/
import Derived.Test.YtohjfcfcopbmoaaER5
import Derived.Test.YtohjfcfcopbmoaaEL4
import Derived.Test.YtohjfcfcopbmoaaM6
import Derived.Test.YtohjfcfcopbmoaaE3
import Derived.Deep.RegionHeld3
import Derived.Test.YtohjfcfcopbmoaaQB4
import Derived.Test.YtohjfcfcopbmoaaQN4

/- Walks: the net of an ordered graph; the later neighbours, as masks. -/
namespace Go.Proofs.Ytohjfcfcopbmoaa
open Go.RowKit

/-- One more has gone: the list of those that are left. -/
theorem remL_pair (g : Nat → Bool) (n : Nat) : (remL g n).Pairwise (· < ·) := (allL_pair n).sublist List.filter_sublist
theorem remL_nodup (g : Nat → Bool) (n : Nat) : (remL g n).Nodup := by
  rw [List.nodup_iff_pairwise_ne]
  exact (remL_pair g n).imp (fun h => by omega)
theorem remL_len (g : Nat → Bool) (n : Nat) : (remL g n).length ≤ n := by
  have := List.length_filter_le (fun x : Int => !g x.toNat) (allL n)
  rw [allL_len] at this
  exact this
theorem remL_i64 (g : Nat → Bool) {n : Nat} (hn : n ≤ 16) : ∀ x ∈ remL g n, I64 x := by
  intro x hx
  obtain ⟨v, hv, _, rfl⟩ := remL_mem.1 hx
  unfold I64; omega
theorem remL_all (n : Nat) : remL (fun v => hasB [] (v : Int)) n = allL n := by
  unfold remL
  rw [List.filter_eq_self]
  intro x _
  show (!hasB [] _) = true
  rw [hasB_nil]; rfl
theorem remL_off {ys : List Int} {n v : Nat} (hv : v < n) (hn : (v : Int) ∉ ys) :
    ∃ k0, k0 < (remL (fun i => hasB ys (i : Int)) n).length ∧ nth (remL (fun i => hasB ys (i : Int)) n) k0 = (v : Int) ∧ (∀ j, j < k0 → nth (remL (fun i => hasB ys (i : Int)) n) j ≠ (v : Int)) ∧
      offL (remL (fun i => hasB ys (i : Int)) n) k0 = remL (fun i => hasB (ys ++ [(v : Int)]) (i : Int)) n := by
  obtain ⟨zs, hz⟩ : ∃ zs, zs = remL (fun i => hasB ys (i : Int)) n := ⟨_, rfl⟩
  have hm : (v : Int) ∈ zs := by rw [hz]; exact remL_mem.2 ⟨v, hv, hasB_false.2 hn, rfl⟩
  have hnd : zs.Nodup := by rw [hz]; exact remL_nodup _ _
  have hl := List.idxOf_lt_length_of_mem hm
  have he : nth zs (zs.idxOf (v : Int)) = (v : Int) := by rw [nth_eq hl]; exact List.getElem_idxOf hl
  rw [← hz]
  refine ⟨zs.idxOf (v : Int), hl, he, fun j hj e => ?_, ?_⟩
  · have h1 := List.Nodup.idxOf_getElem hnd j (by omega)
    rw [nth_eq (by omega)] at e
    rw [e] at h1
    omega
  · have e1 : offL zs (zs.idxOf (v : Int)) = zs.filter (fun x => x != (v : Int)) := by
      unfold offL
      rw [← List.eraseIdx_eq_take_drop_succ, ← List.erase_eq_eraseIdx_of_idxOf rfl, hnd.erase_eq_filter]
    rw [e1, hz]
    unfold remL
    rw [List.filter_filter]
    refine List.filter_congr (fun x hx => ?_)
    obtain ⟨u, hu, rfl⟩ := (allL_mem _ _).1 hx
    rw [Int.toNat_natCast]
    show ((u : Int) != (v : Int) && !hasB ys (u : Int)) = !hasB (ys ++ [(v : Int)]) (u : Int)
    rw [hasB_snoc]
    have : ((u : Int) != (v : Int)) = !((u : Int) == (v : Int)) := rfl
    rw [this]
    cases hasB ys (u : Int) <;> cases ((u : Int) == (v : Int)) <;> rfl
theorem web_cut (A : Nat → Nat → Bool) {ys : List Int} {v : Nat} (hv : (v : Int) ∉ ys) : cutA (knitA (webX A ys) v) v = webX A (ys ++ [(v : Int)]) := by
  funext i j
  rw [webX_snoc A hv]; rfl
theorem webX_nil (A : Nat → Nat → Bool) : webX A [] = A := by
  funext i j
  unfold webX
  rw [hasB_nil, hasB_nil, fillX_nil]; simp

/-- What orderedNet hands back. -/
def ordN (L : List (List Int)) (xs : List Int) : Nat := if orderB L xs = true then L.length else 0
def ordM (L : List (List Int)) (xs : List Int) (i : Nat) : Nat := if orderB L xs = true then rowM L i else 0
def GaveOrd (w : World) (L : List (List Int)) (xs : List Int) (e : Ending) (w' : World) : Prop :=
  e = .returned (.tuple #[.agg (netArr (ordN L xs) (ordM L xs)), .bool (orderB L xs)]) ∧ Below w.heap.size w w'

set_option maxHeartbeats 2000000 in
set_option maxRecDepth 100000 in
theorem orderedNet_any (v v1 : Value) (L : List (List Int)) (xs : List Int) (w : World) (h : GridAt w v L) (h1 : RowAt w v1 xs) : Calls Try.prog 39 #[.agg #[v], v1] w (GaveOrd w L xs) := by
  obtain ⟨a0, c0, rfl⟩ := h.slice
  have HGK : Hid (∀ w', Below w.heap.size w w' → GridAt w' (.slice a0 L.length c0) L) := fun w' hb => h.keep hb
  have HRK : Hid (∀ w', Below w.heap.size w w' → RowAt w' v1 xs) := fun w' hb => h1.keep hb
  have hg1 : NetBlk 61 ((w.alloc (.cells #[.slice a0 L.length c0] 37)).alloc (.cells (netArr 0 (fun _ => 0)) 61)) (w.heap.size + 1) 0 (fun _ => 0) := by
    have := heap_alloc_new (w.alloc (.cells #[.slice a0 L.length c0] 37)) (.cells (netArr 0 (fun _ => 0)) 61)
    rwa [size_alloc1] at this
  have hx1 : BoxAt ((w.alloc (.cells #[.slice a0 L.length c0] 37)).alloc (.cells (netArr 0 (fun _ => 0)) 61)) w.heap.size (.slice a0 L.length c0) := (BoxAt.new w _ _).keep ((Below.refl _ _).alloc (Nat.le_refl _) _)
  have hb1 : Below w.heap.size w ((w.alloc (.cells #[.slice a0 L.length c0] 37)).alloc (.cells (netArr 0 (fun _ => 0)) 61)) := ((Below.refl _ _).alloc (Nat.le_refl _) _).alloc (by simp) _
  have HG1 := Lib.hid hg1
  have HX1 := Lib.hid hx1
  have HB1 := Lib.hid hb1
  clear h h1 hg1 hx1 hb1
  go_enter Try.func39, Try.ntmps39
  go_wp2_with fail
  refine (implOrderOk_any _ _ L xs _ (HGK.out _ HB1.out) (HRK.out _ HB1.out)).mono ?_
  rintro e w2 ⟨rfl, hb2⟩
  have HB2 : Hid (Below w.heap.size w w2) := HB1.out.trans (hb2.mono HB1.out.size)
  have hg2 := HG1.out.keep hb2
  have HX2 := Lib.hid (HX1.out.keep hb2)
  clear hb2
  by_cases hok : orderB L xs = true
  · have HI := Lib.hid hok
    obtain ⟨hG, _, _, _⟩ := orderB_yes hok
    have HNA : Hid (netArr (netN L) (netM L) = netArr (ordN L xs) (ordM L xs)) := by
      show _ = _
      rw [netArr_yes hG]
      exact netArr_congr (by unfold ordN; rw [hok]; rfl) (fun i _ => by unfold ordM; rw [hok]; rfl)
    have HGP := Lib.hid hG
    have kb2 := HX2.out.1
    have HG2 := Lib.hid hg2
    rw [hok]
    clear hok hG hg2
    go_wp2_with fail
    refine (netOf_any _ L _ (HGK.out _ HB2.out)).mono ?_
    rintro e w3 ⟨rfl, hb3⟩
    rw [decide_eq_true HGP.out, HNA.out]
    have hg3 := HG2.out.keep hb3
    have HB3 : Hid (Below w.heap.size w w3) := HB2.out.trans (hb3.mono HB2.out.size)
    clear hb3 kb2
    go_wp2_with (refine wpList_store_net rfl 61 (.tmp 4) (.tmp 13) rfl (w.heap.size + 1) (ordN L xs) (ordM L xs) rfl rfl Try.sizeNet 0 (fun _ => 0) hg3 ?_; intro w5 hp)
    refine bodyPost_ret (v := .tuple #[.agg (netArr (ordN L xs) (ordM L xs)), .bool true]) ?_ rfl ⟨by rw [HI.out], HB3.out.trans (hp.below.mono (by omega))⟩
    rw [results_net Try.results39 _ w5 (w.heap.size + 1) (ordN L xs) (ordM L xs) _ rfl hp.net Try.sizeNet Try.underlying61 rfl]
    rfl
  · have hok' : orderB L xs = false := by simpa using hok
    have HI := Lib.hid hok'
    have HNA : Hid (netArr 0 (fun _ => 0) = netArr (ordN L xs) (ordM L xs)) := netArr_congr (by unfold ordN; rw [hok']; rfl) (fun i _ => by unfold ordM; rw [hok']; rfl)
    rw [hok']
    clear hok hok'
    go_wp2_with (refine wpList_store_net rfl 61 (.tmp 4) (.tmp 10) rfl (w.heap.size + 1) 0 (fun _ => 0) rfl rfl Try.sizeNet 0 (fun _ => 0) hg2 ?_; intro w5 hp)
    refine bodyPost_ret (v := .tuple #[.agg (netArr 0 (fun _ => 0)), .bool false]) ?_ rfl ⟨by rw [HI.out, ← HNA.out], HB2.out.trans (hp.below.mono (by omega))⟩
    rw [results_net Try.results39 _ w5 (w.heap.size + 1) 0 (fun _ => 0) _ rfl hp.net Try.sizeNet Try.underlying61 rfl]
    rfl

end Go.Proofs.Ytohjfcfcopbmoaa

/- Walks: the later neighbours, as masks, of the program. -/
namespace Go.Proofs.Ytohjfcfcopbmoaa
open Go.RowKit

/-- The masks of those that have gone in the first k rounds. -/
def latM (A : Nat → Nat → Bool) (xs : List Int) (k i : Nat) : Nat := if hasB (xs.take k) (i : Int) = true then pm (laterA A xs i) else 0
theorem latM_zero (A : Nat → Nat → Bool) (xs : List Int) (i : Nat) : latM A xs 0 i = 0 := by
  unfold latM
  have : hasB (xs.take 0) (i : Int) = false := hasB_false.2 (by simp)
  rw [this]; rfl
theorem latM_next {A : Nat → Nat → Bool} {xs : List Int} {k v : Nat} (hk : k < xs.length) (e : nth xs k = (v : Int)) (i : Nat) : (if i = v then pm (laterA A xs v) else latM A xs k i) = latM A xs (k + 1) i := by
  unfold latM
  rw [take_snoc hk, e, hasB_snoc]
  by_cases h : i = v
  · subst h; simp
  · have : ((i : Int) == (v : Int)) = false := by rw [beq_eq_false_iff_ne]; omega
    rw [if_neg h, this, Bool.or_false]
theorem latM_all {A : Nat → Nat → Bool} {n : Nat} (hA : RelP n A) {xs : List Int} (hO : OrdP xs n) (i : Nat) : latM A xs xs.length i = pm (laterA A xs i) := by
  unfold latM
  rw [List.take_length]
  by_cases h : hasB xs (i : Int) = true
  · rw [if_pos h]
  · rw [if_neg h, ← pm_false]
    refine pm_congr (fun j _ => ?_)
    cases hl : laterA A xs i j with
    | false => rfl
    | true => exact absurd ((hasB_mem _ _).2 (ordP_mem hO (later_range hA hl).1)) h
/-- At work: what is left, the masks so far. -/
structure LatW (w0 : World) (ob rb n : Nat) (A : Nat → Nat → Bool) (xs : List Int) (k : Nat) (w : World) : Prop where
  rem : RemBlk w rb n (fun i => pm (webX A (xs.take k) i)) (remL (fun i => hasB (xs.take k) (i : Int)) n)
  out : w.rowIs ob 59 16 (fun i => .int .u32 (latM A xs k i : Int))
  res : ∃ old, w.heap[w0.heap.size]? = some (.cells old 59 (0, 0)) ∧ old.size = 16
  bel : Below w0.heap.size w0 w
theorem Try.sizeMs : (Try.prog.info? 59).map (·.size) = some 16 := by kernel_rfl
theorem maskArr (w : World) (b : Nat) (M : Nat → Nat) (h : w.rowIs b 59 16 (fun i => .int .u32 (M i : Int))) : w.heap[b]? = some (.cells (maskCells M).toArray 59 (0, 0)) := rowIs_list h
theorem mask_one (M : Nat → Nat) : (maskCells M).toArray.all (·.oneCell') = true := by
  rw [Array.all_eq_true']
  intro v hv
  simp only [maskCells, List.mem_toArray, List.mem_map] at hv
  obtain ⟨i, _, rfl⟩ := hv
  rfl

set_option maxHeartbeats 4000000 in
set_option maxRecDepth 100000 in
theorem later_any (bn n : Nat) (A : Nat → Nat → Bool) (v1 : Value) (xs : List Int) (w : World) (h : NetBlk 61 w bn n (fun i => pm (A i))) (hn : 1 ≤ n ∧ n ≤ 16) (hA : RelP n A) (h1 : RowAt w v1 xs) (hO : OrdP xs n) :
    Calls Try.prog 40 #[.pointer (some ⟨bn, 0, none⟩), v1] w fun e w' => e = .returned (.agg (maskCells (fun i => pm (laterA A xs i))).toArray) ∧ Below w.heap.size w w' := by
  have hlen := hO.1
  have hx16 : xs.length ≤ 16 := by omega
  have hx0 : 0 < xs.length := by omega
  obtain ⟨bx, ox, cx, rfl, lx1, lx2, hcx⟩ := h1.pos hx0
  have HN := Lib.hid h
  have HA := Lib.hid hA
  have HO := Lib.hid hO
  have HCX : Hid (∀ W, Below w.heap.size w W → ∀ k, k < xs.length → W.cell? ⟨bx, ox + k, none⟩ = some (.int .i64 (nth xs k))) := fun W hb k hk => cell_keep hb (hcx k hk)
  have HV : Hid (∀ k, k < xs.length → ∃ u : Nat, u < n ∧ nth xs k = (u : Int)) := fun k hk => ordP_at hO hk
  obtain ⟨wA, hwA⟩ : ∃ wA, wA = (w.alloc (.cells (maskCells (fun _ => 0)).toArray 59)).alloc (.cells (maskCells (fun _ => 0)).toArray 59) := ⟨_, rfl⟩
  have hbA : Below w.heap.size w wA := by rw [hwA]; exact ((Below.refl _ _).alloc (Nat.le_refl _) _).alloc (by simp) _
  have hsA : wA.heap.size = w.heap.size + 1 + 1 := by rw [hwA, size_alloc1, size_alloc1]
  have hrA : wA.heap[w.heap.size]? = some (.cells (maskCells (fun _ => 0)).toArray 59 (0, 0)) := by rw [hwA]; exact heap_alloc2_old w _ _
  have hoA : wA.rowIs (w.heap.size + 1) 59 16 (fun i => .int .u32 (latM A xs 0 i : Int)) := by
    refine ⟨(maskCells (fun _ => 0)).toArray, ?_, by simp [maskCells], fun i hi => ?_⟩
    · have := heap_alloc_new (w.alloc (.cells (maskCells (fun _ => 0)).toArray 59)) (.cells (maskCells (fun _ => 0)).toArray 59)
      rw [size_alloc1, ← hwA] at this
      exact this
    · rw [List.getElem?_toArray, maskCells_get _ hi]
      show some (Value.int .u32 ((0 : Nat) : Int)) = some (Value.int .u32 ((latM A xs 0 i : Nat) : Int))
      rw [latM_zero]
  have HBA := Lib.hid hbA
  have HSA := Lib.hid hsA
  have HRA := Lib.hid hrA
  have HOA := Lib.hid hoA
  have HWA := Lib.hid hwA
  have HLEN := Lib.hid hlen
  clear h h1 hcx hA hO hbA hsA hrA hoA hwA hlen
  go_enter Try.func40, Try.ntmps40
  go_wp2_with fail
  change Calls Try.prog 61 _ ((w.alloc (.cells (maskCells (fun _ => 0)).toArray 59)).alloc (.cells (maskCells (fun _ => 0)).toArray 59)) _
  rw [← HWA.out]
  refine (remains_any bn n _ _ (HN.out.keep HBA.out) hn (fun i => pm_lt _)).mono ?_
  rintro e w3 ⟨lf, rfl, hlf, hb3⟩
  have hs3 : wA.heap.size ≤ w3.heap.size := hb3.size
  have hnew : (w3.alloc (.cells (remArr 0 (fun _ => 0) (fun _ => 0) 0) 83)).heap[w3.heap.size]? = some (.cells (remArr 0 (fun _ => 0) (fun _ => 0) 0) 83 (0, 0)) := heap_alloc_new _ _
  have HNEW := Lib.hid hnew
  have HLF := Lib.hid hlf
  have HB3 := Lib.hid hb3
  clear hb3 hlf hnew
  go_wp2_with (refine wpList_store_row rfl 83 (.tmp 6) (.tmp 10) rfl w3.heap.size (remArr n (fun i => pm (A i)) lf n) rfl rfl 83 (remArr 0 (fun _ => 0) (fun _ => 0) 0) HNEW.out Try.sizeRem rfl (remArr_one _ _ _ _) ?_)
  obtain ⟨w5, hw5⟩ : ∃ w5, w5 = (w3.alloc (.cells (remArr 0 (fun _ => 0) (fun _ => 0) 0) 83)).setRow w3.heap.size (remArr n (fun i => pm (A i)) lf n) := ⟨_, rfl⟩
  have hg5 : w5.heap[w3.heap.size]? = some (.cells (remArr n (fun i => pm (A i)) lf n) 83 (0, 0)) := by rw [hw5]; exact setRow_heap _ _ _ _ 83 _ HNEW.out
  have hb5 : Below w3.heap.size w3 w5 := by
    rw [hw5]
    exact ((Below.refl _ _).alloc (Nat.le_refl _) _).trans ⟨rfl, rfl, rfl, by simp [World.setRow], fun k hk => setRow_other _ w3.heap.size k _ (by omega)⟩
  have hs5 : w5.heap.size = w3.heap.size + 1 := by rw [hw5]; simp [World.setRow]
  have HW0 : Hid (LatW w (w.heap.size + 1) w3.heap.size n A xs 0 w5) := by
    refine ⟨⟨lf, ?_, ?_⟩, (rowIs_below (rowIs_below HOA.out HB3.out) hb5), ⟨(maskCells (fun _ => 0)).toArray, ?_, ?_⟩, (HBA.out.trans (HB3.out.mono HBA.out.size)).trans (hb5.mono (by have := HBA.out.size; omega))⟩
    · have e : (remL (fun i => hasB (xs.take 0) (i : Int)) n) = allL n := remL_all n
      rw [e, allL_len]
      refine (remArr_row hg5).congr (fun i _ => ?_)
      have : webX A (xs.take 0) = A := webX_nil A
      rw [this]
    · intro i hi
      have e : (remL (fun i => hasB (xs.take 0) (i : Int)) n) = allL n := remL_all n
      rw [e, allL_len] at hi
      rw [e, HLF.out i hi]
      simp [nth, allL, hi]
    · exact (hb5.block w.heap.size (by have := HSA.out; omega)).trans ((HB3.out.block w.heap.size (by have := HSA.out; omega)).trans HRA.out)
    · simp [maskCells]
  change Code.wp _ _ _ _ (World.setRow (w3.alloc (.cells (remArr 0 (fun _ => 0) (fun _ => 0) 0) 83)) w3.heap.size (remArr n (fun i => pm (A i)) lf n))
  rw [← hw5]
  have hrb : w.heap.size + 1 < w3.heap.size := by have := HSA.out; omega
  clear hw5 hg5 hb5 HNEW HLF HB3 HRA HOA
  go_wp2_with fail
  go_loopw [13] (fun i wr => ∃ k : Nat, k ≤ xs.length ∧ i = .int .i64 k ∧ LatW w (w.heap.size + 1) w3.heap.size n A xs k wr ∧ w3.heap.size < wr.heap.size) (fun i _ => xs.length - (intOf i).toNat)
  case atStart => exact ⟨0, Nat.zero_le _, rfl, HW0.out, by omega⟩
  case round =>
    obtain ⟨k, hk, rfl, hw, hzr⟩ := hrel
    have HW := Lib.hid hw
    by_cases hlt : k < xs.length
    · obtain ⟨v, hv, ev⟩ := HV.out k hlt
      have hck := HCX.out _ hw.bel k hlt
      rw [ev] at hck
      have hv16 : v < 16 := by omega
      have hvI : (v : Int) < 16 := by omega
      have kv := hw.rem.mask hv16
      have ko := hw.out.cell hv16
      have fo := hw.out.frozen v
      have hnew : (v : Int) ∉ xs.take k := by rw [← ev]; exact ordP_new HO.out hlt
      have hlw : pm (webX A (xs.take k) v) = pm (laterA A xs v) := pm_congr (fun j _ => (later_web HA.out HO.out hlt ev j).symm)
      have HNX : Hid (∀ i, (if i = v then pm (laterA A xs v) else latM A xs k i) = latM A xs (k + 1) i) := fun i => latM_next hlt ev i
      have HT : Hid (xs.take (k + 1) = xs.take k ++ [(v : Int)]) := by show _ = _; rw [take_snoc hlt, ev]
      obtain ⟨k0, q1, q2, q3, q4⟩ := remL_off (ys := xs.take k) hv hnew
      rw [← HT.out] at q4
      have HCUT : Hid (cutA (knitA (webX A (xs.take k)) v) v = webX A (xs.take (k + 1))) := by show _ = _; rw [HT.out]; exact web_cut A hnew
      have HEL : Hid (∀ W, RemBlk W w3.heap.size n (fun i => pm (webX A (xs.take k) i)) (remL (fun i => hasB (xs.take k) (i : Int)) n) → Calls Try.prog 62 #[.pointer (some ⟨w3.heap.size, 0, none⟩), .int .i64 (v : Int)] W fun e w' => e = .returned (.tuple #[]) ∧ RemBlk w' w3.heap.size n (fun i => pm (cutA (knitA (webX A (xs.take k)) v) v i)) (remL (fun i => hasB (xs.take (k + 1)) (i : Int)) n) ∧ Touched w3.heap.size (w3.heap.size + 1) W w') :=
        fun W hW => remEliminate_any _ w3.heap.size n v k0 n (webX A (xs.take k)) _ W hW (Nat.le_trans (remL_len _ _) hn.2) q1 q2 q3 (remL_i64 _ hn.2) hv16 (webX_rel HA.out _) q4
      rw [hlw] at kv
      have hok : w.heap.size + 1 ≠ w3.heap.size := by omega
      have HREM : Hid (RemBlk (wr.setCell ⟨w.heap.size + 1, v, none⟩ (.int .u32 ((pm (laterA A xs v) : Nat) : Int))) w3.heap.size n (fun i => pm (webX A (xs.take k) i)) (remL (fun i => hasB (xs.take k) (i : Int)) n)) := hw.rem.of_block (heap_setCell_other _ _ _ _ (by simp; omega))
      have HOUT : Hid ((wr.setCell ⟨w.heap.size + 1, v, none⟩ (.int .u32 ((pm (laterA A xs v) : Nat) : Int))).rowIs (w.heap.size + 1) 59 16 (fun i => .int .u32 (latM A xs (k + 1) i : Int))) := by
        refine (hw.out.set v _).congr (fun i _ => ?_)
        rw [← HNX.out i]
        by_cases e : i = v
        · rw [if_pos e, if_pos e]
        · rw [if_neg e, if_neg e]
      have HRES : Hid (∃ old, (wr.setCell ⟨w.heap.size + 1, v, none⟩ (.int .u32 ((pm (laterA A xs v) : Nat) : Int))).heap[w.heap.size]? = some (.cells old 59 (0, 0)) ∧ old.size = 16) := by
        obtain ⟨old, o1, o2⟩ := hw.res
        exact ⟨old, by rw [heap_setCell_other _ _ _ _ (by simp)]; exact o1, o2⟩
      have HBEL : Hid (Below w.heap.size w (wr.setCell ⟨w.heap.size + 1, v, none⟩ (.int .u32 ((pm (laterA A xs v) : Nat) : Int)))) := hw.bel.setCell (by simp) _
      have HZR : Hid (w3.heap.size < (wr.setCell ⟨w.heap.size + 1, v, none⟩ (.int .u32 ((pm (laterA A xs v) : Nat) : Int))).heap.size) := by show _ < _; rw [size_setCell1]; exact hzr
      clear hw HW hnew hlw q1 q2 q3 q4 ev hzr
      go_wp2_with fail
      clear kv ko fo hck
      generalize wr.setCell ⟨w.heap.size + 1, v, none⟩ (.int .u32 ((pm (laterA A xs v) : Nat) : Int)) = w6 at HREM HOUT HRES HBEL HZR ⊢
      refine (HEL.out w6 HREM.out).mono ?_
      rintro e w7 ⟨rfl, hr7, ht7⟩
      have HZR7 : Hid (w3.heap.size < w7.heap.size) := Nat.lt_of_lt_of_le HZR.out ht7.size
      have HW7 : Hid (LatW w (w.heap.size + 1) w3.heap.size n A xs (k + 1) w7) := by
        refine ⟨by rw [← HCUT.out]; exact hr7, HOUT.out.of_block (ht7.other _ HOUT.out.lt (Or.inl (by omega))), ?_, HBEL.out.trans ((ht7.below (by have := HZR.out; omega)).mono (by omega))⟩
        obtain ⟨old, o1, o2⟩ := HRES.out
        exact ⟨old, by rw [ht7.other _ (Array.getElem?_eq_some_iff.1 o1).1 (Or.inl (by omega))]; exact o1, o2⟩
      clear hr7 ht7
      go_wp2
      go_roundw
      case rel => exact ⟨k + 1, by omega, by go_num, HW7.out, HZR7.out⟩
      case measure => simp [intOf]; omega
    · obtain rfl : k = xs.length := by omega
      obtain ⟨old, o1, o2⟩ := hw.res
      have HO1 := Lib.hid o1
      have HO2 := Lib.hid o2
      have HOUT : Hid (wr.heap[w.heap.size + 1]? = some (.cells (maskCells (fun i => pm (laterA A xs i))).toArray 59 (0, 0))) := maskArr wr _ _ (hw.out.congr (fun i _ => by rw [latM_all HA.out HO.out]))
      have HSZ : Hid ((Try.prog.info? 59).map (·.size) = some (maskCells (fun i => pm (laterA A xs i))).toArray.size) := by show _ = _; rw [Try.sizeMs]; simp [maskCells]
      have HBEL := Lib.hid hw.bel
      clear hw HW o1 o2
      obtain ⟨C, hC⟩ : ∃ C, C = (maskCells (fun i => pm (laterA A xs i))).toArray := ⟨_, rfl⟩
      have HONE : Hid (C.all (·.oneCell') = true) := by show _ = _; rw [hC]; exact mask_one _
      have HCS : Hid (old.size = C.size) := by show _ = _; rw [HO2.out, hC]; simp [maskCells]
      rw [← hC] at HOUT HSZ
      have HC := Lib.hid hC
      clear hC
      go_wp2_with (first | (refine wpList_load_row rfl 59 (.tmp 5) rfl (w.heap.size + 1) rfl 59 C (0, 0) _ HOUT.out Try.underlying59 rfl HSZ.out ?_) | (refine wpList_store_row rfl 59 (.tmp 4) (.tmp 27) rfl w.heap.size C rfl rfl 59 old HO1.out HSZ.out HCS.out HONE.out ?_))
      refine bodyPost_ret (v := .agg C) (results_cell_row Try.results40 _ _ w.heap.size 59 _ (0, 0) _ rfl (setRow_heap wr w.heap.size _ _ 59 _ HO1.out) Try.underlying59 rfl HSZ.out) rfl ⟨by rw [HC.out], ?_⟩
      exact HBEL.out.trans ⟨rfl, rfl, rfl, by simp [World.setRow], fun k hk => setRow_other wr w.heap.size k _ (by omega)⟩

end Go.Proofs.Ytohjfcfcopbmoaa

/- Walks: OrderWidth, FillMany, PerfectIn of the program. -/
namespace Go.Proofs.Ytohjfcfcopbmoaa
open Go.RowKit

theorem ord_net {w : World} {g : Nat} {L : List (List Int)} {xs : List Int} (h : NetBlk 61 w g (ordN L xs) (ordM L xs)) (hok : orderB L xs = true) : NetBlk 61 w g L.length (fun i => pm (adjB L i)) := by
  obtain ⟨hG, _, _, _⟩ := orderB_yes hok
  refine h.congr (by unfold ordN; rw [hok]; rfl) (fun i _ => ?_)
  unfold ordM
  rw [hok, ← rowM_pm hG]; rfl
end Go.Proofs.Ytohjfcfcopbmoaa
