/- The texts ER6, ER7, ER8, joined. -/
import Derived.Test.YtohjfcfcopbmoaaGreatDoorER5
import Derived.Test.YtohjfcfcopbmoaaGreatDoorQN4
import Derived.Test.YtohjfcfcopbmoaaGreatDoorQB4

/- Walks: the net of an ordered graph; the later neighbours, as masks. -/
namespace Go.Proofs.YtohjfcfcopbmoaaGreatDoor
open Go.RowKit

/-- One more has gone: the list of those that are left. -/
theorem remL_pair (g : Nat → Bool) (n : Nat) : (remL g n).Pairwise (· < ·) := (allL_pair n).sublist List.filter_sublist
theorem remL_nodup (g : Nat → Bool) (n : Nat) : (remL g n).Nodup := by
  rw [List.nodup_iff_pairwise_ne]
  exact (remL_pair g n).imp (fun h => by omega)
theorem remL_len (g : Nat → Bool) (n : Nat) : (remL g n).length ≤ n := by
  have := List.length_filter_le (fun x : Int => !g x.toNat) (allL n)
  rw [allL_len] at this
  exact this
theorem remL_i64 (g : Nat → Bool) {n : Nat} (hn : n ≤ 16) : ∀ x ∈ remL g n, I64 x := by
  intro x hx
  obtain ⟨v, hv, _, rfl⟩ := remL_mem.1 hx
  unfold I64; omega
theorem remL_all (n : Nat) : remL (fun v => hasB [] (v : Int)) n = allL n := by
  unfold remL
  rw [List.filter_eq_self]
  intro x _
  show (!hasB [] _) = true
  rw [hasB_nil]; rfl
theorem remL_off {ys : List Int} {n v : Nat} (hv : v < n) (hn : (v : Int) ∉ ys) :
    ∃ k0, k0 < (remL (fun i => hasB ys (i : Int)) n).length ∧ nth (remL (fun i => hasB ys (i : Int)) n) k0 = (v : Int) ∧ (∀ j, j < k0 → nth (remL (fun i => hasB ys (i : Int)) n) j ≠ (v : Int)) ∧
      offL (remL (fun i => hasB ys (i : Int)) n) k0 = remL (fun i => hasB (ys ++ [(v : Int)]) (i : Int)) n := by
  obtain ⟨zs, hz⟩ : ∃ zs, zs = remL (fun i => hasB ys (i : Int)) n := ⟨_, rfl⟩
  have hm : (v : Int) ∈ zs := by rw [hz]; exact remL_mem.2 ⟨v, hv, hasB_false.2 hn, rfl⟩
  have hnd : zs.Nodup := by rw [hz]; exact remL_nodup _ _
  have hl := List.idxOf_lt_length_of_mem hm
  have he : nth zs (zs.idxOf (v : Int)) = (v : Int) := by rw [nth_eq hl]; exact List.getElem_idxOf hl
  rw [← hz]
  refine ⟨zs.idxOf (v : Int), hl, he, fun j hj e => ?_, ?_⟩
  · have h1 := List.Nodup.idxOf_getElem hnd j (by omega)
    rw [nth_eq (by omega)] at e
    rw [e] at h1
    omega
  · have e1 : offL zs (zs.idxOf (v : Int)) = zs.filter (fun x => x != (v : Int)) := by
      unfold offL
      rw [← List.eraseIdx_eq_take_drop_succ, ← List.erase_eq_eraseIdx_of_idxOf rfl, hnd.erase_eq_filter]
    rw [e1, hz]
    unfold remL
    rw [List.filter_filter]
    refine List.filter_congr (fun x hx => ?_)
    obtain ⟨u, hu, rfl⟩ := (allL_mem _ _).1 hx
    rw [Int.toNat_natCast]
    show ((u : Int) != (v : Int) && !hasB ys (u : Int)) = !hasB (ys ++ [(v : Int)]) (u : Int)
    rw [hasB_snoc]
    have : ((u : Int) != (v : Int)) = !((u : Int) == (v : Int)) := rfl
    rw [this]
    cases hasB ys (u : Int) <;> cases ((u : Int) == (v : Int)) <;> rfl
theorem web_cut (A : Nat → Nat → Bool) {ys : List Int} {v : Nat} (hv : (v : Int) ∉ ys) : cutA (knitA (webX A ys) v) v = webX A (ys ++ [(v : Int)]) := by
  funext i j
  rw [webX_snoc A hv]; rfl
theorem webX_nil (A : Nat → Nat → Bool) : webX A [] = A := by
  funext i j
  unfold webX
  rw [hasB_nil, hasB_nil, fillX_nil]; simp

/-- What orderedNet hands back. -/
def ordN (L : List (List Int)) (xs : List Int) : Nat := if orderB L xs = true then L.length else 0
def ordM (L : List (List Int)) (xs : List Int) (i : Nat) : Nat := if orderB L xs = true then rowM L i else 0
def GaveOrd (w : World) (L : List (List Int)) (xs : List Int) (e : Ending) (w' : World) : Prop :=
  e = .returned (.tuple #[.agg (netArr (ordN L xs) (ordM L xs)), .bool (orderB L xs)]) ∧ Below w.heap.size w w'

set_option maxHeartbeats 2000000 in
set_option maxRecDepth 100000 in
theorem orderedNet_any (v v1 : Value) (L : List (List Int)) (xs : List Int) (w : World) (h : GridAt w v L) (h1 : RowAt w v1 xs) : Calls Tryz.prog 114 #[.agg #[v], v1] w (GaveOrd w L xs) := by
  obtain ⟨a0, c0, rfl⟩ := h.slice
  have HGK : Hid (∀ w', Below w.heap.size w w' → GridAt w' (.slice a0 L.length c0) L) := fun w' hb => h.keep hb
  have HRK : Hid (∀ w', Below w.heap.size w w' → RowAt w' v1 xs) := fun w' hb => h1.keep hb
  have hg1 : NetBlk 83 ((w.alloc (.cells #[.slice a0 L.length c0] 26)).alloc (.cells (netArr 0 (fun _ => 0)) 83)) (w.heap.size + 1) 0 (fun _ => 0) := by
    have := heap_alloc_new (w.alloc (.cells #[.slice a0 L.length c0] 26)) (.cells (netArr 0 (fun _ => 0)) 83)
    rwa [size_alloc1] at this
  have hx1 : BoxAt ((w.alloc (.cells #[.slice a0 L.length c0] 26)).alloc (.cells (netArr 0 (fun _ => 0)) 83)) w.heap.size (.slice a0 L.length c0) := (BoxAt.new w _ _).keep ((Below.refl _ _).alloc (Nat.le_refl _) _)
  have hb1 : Below w.heap.size w ((w.alloc (.cells #[.slice a0 L.length c0] 26)).alloc (.cells (netArr 0 (fun _ => 0)) 83)) := ((Below.refl _ _).alloc (Nat.le_refl _) _).alloc (by simp) _
  have HG1 := Lib.hid hg1
  have HX1 := Lib.hid hx1
  have HB1 := Lib.hid hb1
  clear h h1 hg1 hx1 hb1
  go_enter Tryz.func114, Tryz.ntmps114
  go_wp2_with fail
  refine (implOrderOk_any _ _ L xs _ (HGK.out _ HB1.out) (HRK.out _ HB1.out)).mono ?_
  rintro e w2 ⟨rfl, hb2⟩
  have HB2 : Hid (Below w.heap.size w w2) := HB1.out.trans (hb2.mono HB1.out.size)
  have hg2 := HG1.out.keep hb2
  have HX2 := Lib.hid (HX1.out.keep hb2)
  clear hb2
  by_cases hok : orderB L xs = true
  · have HI := Lib.hid hok
    obtain ⟨hG, _, _, _⟩ := orderB_yes hok
    have HNA : Hid (netArr (netN L) (netM L) = netArr (ordN L xs) (ordM L xs)) := by
      show _ = _
      rw [netArr_yes hG]
      exact netArr_congr (by unfold ordN; rw [hok]; rfl) (fun i _ => by unfold ordM; rw [hok]; rfl)
    have HGP := Lib.hid hG
    have kb2 := HX2.out.1
    have HG2 := Lib.hid hg2
    rw [hok]
    clear hok hG hg2
    go_wp2_with fail
    refine (netOf_any _ L _ (HGK.out _ HB2.out)).mono ?_
    rintro e w3 ⟨rfl, hb3⟩
    rw [decide_eq_true HGP.out, HNA.out]
    have hg3 := HG2.out.keep hb3
    have HB3 : Hid (Below w.heap.size w w3) := HB2.out.trans (hb3.mono HB2.out.size)
    clear hb3 kb2
    go_wp2_with (refine wpList_store_net rfl 83 (.tmp 4) (.tmp 13) rfl (w.heap.size + 1) (ordN L xs) (ordM L xs) rfl rfl Tryz.sizeNet 0 (fun _ => 0) hg3 ?_; intro w5 hp)
    refine bodyPost_ret (v := .tuple #[.agg (netArr (ordN L xs) (ordM L xs)), .bool true]) ?_ rfl ⟨by rw [HI.out], HB3.out.trans (hp.below.mono (by omega))⟩
    rw [results_net Tryz.results114 _ w5 (w.heap.size + 1) (ordN L xs) (ordM L xs) _ rfl hp.net Tryz.sizeNet Tryz.underlying83 rfl]
    rfl
  · have hok' : orderB L xs = false := by simpa using hok
    have HI := Lib.hid hok'
    have HNA : Hid (netArr 0 (fun _ => 0) = netArr (ordN L xs) (ordM L xs)) := netArr_congr (by unfold ordN; rw [hok']; rfl) (fun i _ => by unfold ordM; rw [hok']; rfl)
    rw [hok']
    clear hok hok'
    go_wp2_with (refine wpList_store_net rfl 83 (.tmp 4) (.tmp 10) rfl (w.heap.size + 1) 0 (fun _ => 0) rfl rfl Tryz.sizeNet 0 (fun _ => 0) hg2 ?_; intro w5 hp)
    refine bodyPost_ret (v := .tuple #[.agg (netArr 0 (fun _ => 0)), .bool false]) ?_ rfl ⟨by rw [HI.out, ← HNA.out], HB2.out.trans (hp.below.mono (by omega))⟩
    rw [results_net Tryz.results114 _ w5 (w.heap.size + 1) 0 (fun _ => 0) _ rfl hp.net Tryz.sizeNet Tryz.underlying83 rfl]
    rfl

end Go.Proofs.YtohjfcfcopbmoaaGreatDoor

/- Walks: the later neighbours, as masks, of the program. -/
namespace Go.Proofs.YtohjfcfcopbmoaaGreatDoor
open Go.RowKit

/-- The masks of those that have gone in the first k rounds. -/
def latM (A : Nat → Nat → Bool) (xs : List Int) (k i : Nat) : Nat := if hasB (xs.take k) (i : Int) = true then pm (laterA A xs i) else 0
theorem latM_zero (A : Nat → Nat → Bool) (xs : List Int) (i : Nat) : latM A xs 0 i = 0 := by
  unfold latM
  have : hasB (xs.take 0) (i : Int) = false := hasB_false.2 (by simp)
  rw [this]; rfl
theorem latM_next {A : Nat → Nat → Bool} {xs : List Int} {k v : Nat} (hk : k < xs.length) (e : nth xs k = (v : Int)) (i : Nat) : (if i = v then pm (laterA A xs v) else latM A xs k i) = latM A xs (k + 1) i := by
  unfold latM
  rw [take_snoc hk, e, hasB_snoc]
  by_cases h : i = v
  · subst h; simp
  · have : ((i : Int) == (v : Int)) = false := by rw [beq_eq_false_iff_ne]; omega
    rw [if_neg h, this, Bool.or_false]
theorem latM_all {A : Nat → Nat → Bool} {n : Nat} (hA : RelP n A) {xs : List Int} (hO : OrdP xs n) (i : Nat) : latM A xs xs.length i = pm (laterA A xs i) := by
  unfold latM
  rw [List.take_length]
  by_cases h : hasB xs (i : Int) = true
  · rw [if_pos h]
  · rw [if_neg h, ← pm_false]
    refine pm_congr (fun j _ => ?_)
    cases hl : laterA A xs i j with
    | false => rfl
    | true => exact absurd ((hasB_mem _ _).2 (ordP_mem hO (later_range hA hl).1)) h
/-- At work: what is left, the masks so far. -/
structure LatW (w0 : World) (ob rb n : Nat) (A : Nat → Nat → Bool) (xs : List Int) (k : Nat) (w : World) : Prop where
  rem : RemBlk w rb n (fun i => pm (webX A (xs.take k) i)) (remL (fun i => hasB (xs.take k) (i : Int)) n)
  out : w.rowIs ob 81 16 (fun i => .int .u32 (latM A xs k i : Int))
  res : ∃ old, w.heap[w0.heap.size]? = some (.cells old 81 (0, 0)) ∧ old.size = 16
  bel : Below w0.heap.size w0 w
theorem Tryz.sizeMs : (Tryz.prog.info? 81).map (·.size) = some 16 := by kernel_rfl
theorem maskArr (w : World) (b : Nat) (M : Nat → Nat) (h : w.rowIs b 81 16 (fun i => .int .u32 (M i : Int))) : w.heap[b]? = some (.cells (maskCells M).toArray 81 (0, 0)) := rowIs_list h
theorem mask_one (M : Nat → Nat) : (maskCells M).toArray.all (·.oneCell') = true := by
  rw [Array.all_eq_true']
  intro v hv
  simp only [maskCells, List.mem_toArray, List.mem_map] at hv
  obtain ⟨i, _, rfl⟩ := hv
  rfl

set_option maxHeartbeats 4000000 in
set_option maxRecDepth 100000 in
theorem later_any (bn n : Nat) (A : Nat → Nat → Bool) (v1 : Value) (xs : List Int) (w : World) (h : NetBlk 83 w bn n (fun i => pm (A i))) (hn : 1 ≤ n ∧ n ≤ 16) (hA : RelP n A) (h1 : RowAt w v1 xs) (hO : OrdP xs n) :
    Calls Tryz.prog 115 #[.pointer (some ⟨bn, 0, none⟩), v1] w fun e w' => e = .returned (.agg (maskCells (fun i => pm (laterA A xs i))).toArray) ∧ Below w.heap.size w w' := by
  have hlen := hO.1
  have hx16 : xs.length ≤ 16 := by omega
  have hx0 : 0 < xs.length := by omega
  obtain ⟨bx, ox, cx, rfl, lx1, lx2, hcx⟩ := h1.pos hx0
  have HN := Lib.hid h
  have HA := Lib.hid hA
  have HO := Lib.hid hO
  have HCX : Hid (∀ W, Below w.heap.size w W → ∀ k, k < xs.length → W.cell? ⟨bx, ox + k, none⟩ = some (.int .i64 (nth xs k))) := fun W hb k hk => cell_keep hb (hcx k hk)
  have HV : Hid (∀ k, k < xs.length → ∃ u : Nat, u < n ∧ nth xs k = (u : Int)) := fun k hk => ordP_at hO hk
  obtain ⟨wA, hwA⟩ : ∃ wA, wA = (w.alloc (.cells (maskCells (fun _ => 0)).toArray 81)).alloc (.cells (maskCells (fun _ => 0)).toArray 81) := ⟨_, rfl⟩
  have hbA : Below w.heap.size w wA := by rw [hwA]; exact ((Below.refl _ _).alloc (Nat.le_refl _) _).alloc (by simp) _
  have hsA : wA.heap.size = w.heap.size + 1 + 1 := by rw [hwA, size_alloc1, size_alloc1]
  have hrA : wA.heap[w.heap.size]? = some (.cells (maskCells (fun _ => 0)).toArray 81 (0, 0)) := by rw [hwA]; exact heap_alloc2_old w _ _
  have hoA : wA.rowIs (w.heap.size + 1) 81 16 (fun i => .int .u32 (latM A xs 0 i : Int)) := by
    refine ⟨(maskCells (fun _ => 0)).toArray, ?_, by simp [maskCells], fun i hi => ?_⟩
    · have := heap_alloc_new (w.alloc (.cells (maskCells (fun _ => 0)).toArray 81)) (.cells (maskCells (fun _ => 0)).toArray 81)
      rw [size_alloc1, ← hwA] at this
      exact this
    · rw [List.getElem?_toArray, maskCells_get _ hi]
      show some (Value.int .u32 ((0 : Nat) : Int)) = some (Value.int .u32 ((latM A xs 0 i : Nat) : Int))
      rw [latM_zero]
  have HBA := Lib.hid hbA
  have HSA := Lib.hid hsA
  have HRA := Lib.hid hrA
  have HOA := Lib.hid hoA
  have HWA := Lib.hid hwA
  have HLEN := Lib.hid hlen
  clear h h1 hcx hA hO hbA hsA hrA hoA hwA hlen
  go_enter Tryz.func115, Tryz.ntmps115
  go_wp2_with fail
  change Calls Tryz.prog 128 _ ((w.alloc (.cells (maskCells (fun _ => 0)).toArray 81)).alloc (.cells (maskCells (fun _ => 0)).toArray 81)) _
  rw [← HWA.out]
  refine (remains_any bn n _ _ (HN.out.keep HBA.out) hn (fun i => pm_lt _)).mono ?_
  rintro e w3 ⟨lf, rfl, hlf, hb3⟩
  have hs3 : wA.heap.size ≤ w3.heap.size := hb3.size
  have hnew : (w3.alloc (.cells (remArr 0 (fun _ => 0) (fun _ => 0) 0) 138)).heap[w3.heap.size]? = some (.cells (remArr 0 (fun _ => 0) (fun _ => 0) 0) 138 (0, 0)) := heap_alloc_new _ _
  have HNEW := Lib.hid hnew
  have HLF := Lib.hid hlf
  have HB3 := Lib.hid hb3
  clear hb3 hlf hnew
  go_wp2_with (refine wpList_store_row rfl 138 (.tmp 6) (.tmp 10) rfl w3.heap.size (remArr n (fun i => pm (A i)) lf n) rfl rfl 138 (remArr 0 (fun _ => 0) (fun _ => 0) 0) HNEW.out Tryz.sizeRem rfl (remArr_one _ _ _ _) ?_)
  obtain ⟨w5, hw5⟩ : ∃ w5, w5 = (w3.alloc (.cells (remArr 0 (fun _ => 0) (fun _ => 0) 0) 138)).setRow w3.heap.size (remArr n (fun i => pm (A i)) lf n) := ⟨_, rfl⟩
  have hg5 : w5.heap[w3.heap.size]? = some (.cells (remArr n (fun i => pm (A i)) lf n) 138 (0, 0)) := by rw [hw5]; exact setRow_heap _ _ _ _ 138 _ HNEW.out
  have hb5 : Below w3.heap.size w3 w5 := by
    rw [hw5]
    exact ((Below.refl _ _).alloc (Nat.le_refl _) _).trans ⟨rfl, rfl, rfl, by simp [World.setRow], fun k hk => setRow_other _ w3.heap.size k _ (by omega)⟩
  have hs5 : w5.heap.size = w3.heap.size + 1 := by rw [hw5]; simp [World.setRow]
  have HW0 : Hid (LatW w (w.heap.size + 1) w3.heap.size n A xs 0 w5) := by
    refine ⟨⟨lf, ?_, ?_⟩, (rowIs_below (rowIs_below HOA.out HB3.out) hb5), ⟨(maskCells (fun _ => 0)).toArray, ?_, ?_⟩, (HBA.out.trans (HB3.out.mono HBA.out.size)).trans (hb5.mono (by have := HBA.out.size; omega))⟩
    · have e : (remL (fun i => hasB (xs.take 0) (i : Int)) n) = allL n := remL_all n
      rw [e, allL_len]
      refine (remArr_row hg5).congr (fun i _ => ?_)
      have : webX A (xs.take 0) = A := webX_nil A
      rw [this]
    · intro i hi
      have e : (remL (fun i => hasB (xs.take 0) (i : Int)) n) = allL n := remL_all n
      rw [e, allL_len] at hi
      rw [e, HLF.out i hi]
      simp [nth, allL, hi]
    · exact (hb5.block w.heap.size (by have := HSA.out; omega)).trans ((HB3.out.block w.heap.size (by have := HSA.out; omega)).trans HRA.out)
    · simp [maskCells]
  change Code.wp _ _ _ _ (World.setRow (w3.alloc (.cells (remArr 0 (fun _ => 0) (fun _ => 0) 0) 138)) w3.heap.size (remArr n (fun i => pm (A i)) lf n))
  rw [← hw5]
  have hrb : w.heap.size + 1 < w3.heap.size := by have := HSA.out; omega
  clear hw5 hg5 hb5 HNEW HLF HB3 HRA HOA
  go_wp2_with fail
  go_loopw [13] (fun i wr => ∃ k : Nat, k ≤ xs.length ∧ i = .int .i64 k ∧ LatW w (w.heap.size + 1) w3.heap.size n A xs k wr ∧ w3.heap.size < wr.heap.size) (fun i _ => xs.length - (intOf i).toNat)
  case atStart => exact ⟨0, Nat.zero_le _, rfl, HW0.out, by omega⟩
  case round =>
    obtain ⟨k, hk, rfl, hw, hzr⟩ := hrel
    have HW := Lib.hid hw
    by_cases hlt : k < xs.length
    · obtain ⟨v, hv, ev⟩ := HV.out k hlt
      have hck := HCX.out _ hw.bel k hlt
      rw [ev] at hck
      have hv16 : v < 16 := by omega
      have hvI : (v : Int) < 16 := by omega
      have kv := hw.rem.mask hv16
      have ko := hw.out.cell hv16
      have fo := hw.out.frozen v
      have hnew : (v : Int) ∉ xs.take k := by rw [← ev]; exact ordP_new HO.out hlt
      have hlw : pm (webX A (xs.take k) v) = pm (laterA A xs v) := pm_congr (fun j _ => (later_web HA.out HO.out hlt ev j).symm)
      have HNX : Hid (∀ i, (if i = v then pm (laterA A xs v) else latM A xs k i) = latM A xs (k + 1) i) := fun i => latM_next hlt ev i
      have HT : Hid (xs.take (k + 1) = xs.take k ++ [(v : Int)]) := by show _ = _; rw [take_snoc hlt, ev]
      obtain ⟨k0, q1, q2, q3, q4⟩ := remL_off (ys := xs.take k) hv hnew
      rw [← HT.out] at q4
      have HCUT : Hid (cutA (knitA (webX A (xs.take k)) v) v = webX A (xs.take (k + 1))) := by show _ = _; rw [HT.out]; exact web_cut A hnew
      have HEL : Hid (∀ W, RemBlk W w3.heap.size n (fun i => pm (webX A (xs.take k) i)) (remL (fun i => hasB (xs.take k) (i : Int)) n) → Calls Tryz.prog 199 #[.pointer (some ⟨w3.heap.size, 0, none⟩), .int .i64 (v : Int)] W fun e w' => e = .returned (.tuple #[]) ∧ RemBlk w' w3.heap.size n (fun i => pm (cutA (knitA (webX A (xs.take k)) v) v i)) (remL (fun i => hasB (xs.take (k + 1)) (i : Int)) n) ∧ Touched w3.heap.size (w3.heap.size + 1) W w') :=
        fun W hW => remEliminate_any _ w3.heap.size n v k0 n (webX A (xs.take k)) _ W hW (Nat.le_trans (remL_len _ _) hn.2) q1 q2 q3 (remL_i64 _ hn.2) hv16 (webX_rel HA.out _) q4
      rw [hlw] at kv
      have hok : w.heap.size + 1 ≠ w3.heap.size := by omega
      have HREM : Hid (RemBlk (wr.setCell ⟨w.heap.size + 1, v, none⟩ (.int .u32 ((pm (laterA A xs v) : Nat) : Int))) w3.heap.size n (fun i => pm (webX A (xs.take k) i)) (remL (fun i => hasB (xs.take k) (i : Int)) n)) := hw.rem.of_block (heap_setCell_other _ _ _ _ (by simp; omega))
      have HOUT : Hid ((wr.setCell ⟨w.heap.size + 1, v, none⟩ (.int .u32 ((pm (laterA A xs v) : Nat) : Int))).rowIs (w.heap.size + 1) 81 16 (fun i => .int .u32 (latM A xs (k + 1) i : Int))) := by
        refine (hw.out.set v _).congr (fun i _ => ?_)
        rw [← HNX.out i]
        by_cases e : i = v
        · rw [if_pos e, if_pos e]
        · rw [if_neg e, if_neg e]
      have HRES : Hid (∃ old, (wr.setCell ⟨w.heap.size + 1, v, none⟩ (.int .u32 ((pm (laterA A xs v) : Nat) : Int))).heap[w.heap.size]? = some (.cells old 81 (0, 0)) ∧ old.size = 16) := by
        obtain ⟨old, o1, o2⟩ := hw.res
        exact ⟨old, by rw [heap_setCell_other _ _ _ _ (by simp)]; exact o1, o2⟩
      have HBEL : Hid (Below w.heap.size w (wr.setCell ⟨w.heap.size + 1, v, none⟩ (.int .u32 ((pm (laterA A xs v) : Nat) : Int)))) := hw.bel.setCell (by simp) _
      have HZR : Hid (w3.heap.size < (wr.setCell ⟨w.heap.size + 1, v, none⟩ (.int .u32 ((pm (laterA A xs v) : Nat) : Int))).heap.size) := by show _ < _; rw [size_setCell1]; exact hzr
      clear hw HW hnew hlw q1 q2 q3 q4 ev hzr
      go_wp2_with fail
      clear kv ko fo hck
      generalize wr.setCell ⟨w.heap.size + 1, v, none⟩ (.int .u32 ((pm (laterA A xs v) : Nat) : Int)) = w6 at HREM HOUT HRES HBEL HZR ⊢
      refine (HEL.out w6 HREM.out).mono ?_
      rintro e w7 ⟨rfl, hr7, ht7⟩
      have HZR7 : Hid (w3.heap.size < w7.heap.size) := Nat.lt_of_lt_of_le HZR.out ht7.size
      have HW7 : Hid (LatW w (w.heap.size + 1) w3.heap.size n A xs (k + 1) w7) := by
        refine ⟨by rw [← HCUT.out]; exact hr7, HOUT.out.of_block (ht7.other _ HOUT.out.lt (Or.inl (by omega))), ?_, HBEL.out.trans ((ht7.below (by have := HZR.out; omega)).mono (by omega))⟩
        obtain ⟨old, o1, o2⟩ := HRES.out
        exact ⟨old, by rw [ht7.other _ (Array.getElem?_eq_some_iff.1 o1).1 (Or.inl (by omega))]; exact o1, o2⟩
      clear hr7 ht7
      go_wp2
      go_roundw
      case rel => exact ⟨k + 1, by omega, by go_num, HW7.out, HZR7.out⟩
      case measure => simp [intOf]; omega
    · obtain rfl : k = xs.length := by omega
      obtain ⟨old, o1, o2⟩ := hw.res
      have HO1 := Lib.hid o1
      have HO2 := Lib.hid o2
      have HOUT : Hid (wr.heap[w.heap.size + 1]? = some (.cells (maskCells (fun i => pm (laterA A xs i))).toArray 81 (0, 0))) := maskArr wr _ _ (hw.out.congr (fun i _ => by rw [latM_all HA.out HO.out]))
      have HSZ : Hid ((Tryz.prog.info? 81).map (·.size) = some (maskCells (fun i => pm (laterA A xs i))).toArray.size) := by show _ = _; rw [Tryz.sizeMs]; simp [maskCells]
      have HBEL := Lib.hid hw.bel
      clear hw HW o1 o2
      obtain ⟨C, hC⟩ : ∃ C, C = (maskCells (fun i => pm (laterA A xs i))).toArray := ⟨_, rfl⟩
      have HONE : Hid (C.all (·.oneCell') = true) := by show _ = _; rw [hC]; exact mask_one _
      have HCS : Hid (old.size = C.size) := by show _ = _; rw [HO2.out, hC]; simp [maskCells]
      rw [← hC] at HOUT HSZ
      have HC := Lib.hid hC
      clear hC
      go_wp2_with (first | (refine wpList_load_row rfl 81 (.tmp 5) rfl (w.heap.size + 1) rfl 81 C (0, 0) _ HOUT.out Tryz.underlying81 rfl HSZ.out ?_) | (refine wpList_store_row rfl 81 (.tmp 4) (.tmp 27) rfl w.heap.size C rfl rfl 81 old HO1.out HSZ.out HCS.out HONE.out ?_))
      refine bodyPost_ret (v := .agg C) (results_cell_row Tryz.results115 _ _ w.heap.size 81 _ (0, 0) _ rfl (setRow_heap wr w.heap.size _ _ 81 _ HO1.out) Tryz.underlying81 rfl HSZ.out) rfl ⟨by rw [HC.out], ?_⟩
      exact HBEL.out.trans ⟨rfl, rfl, rfl, by simp [World.setRow], fun k hk => setRow_other wr w.heap.size k _ (by omega)⟩

end Go.Proofs.YtohjfcfcopbmoaaGreatDoor

/- Walks: OrderWidth, FillMany, PerfectIn of the program. -/
namespace Go.Proofs.YtohjfcfcopbmoaaGreatDoor
open Go.RowKit

theorem ord_net {w : World} {g : Nat} {L : List (List Int)} {xs : List Int} (h : NetBlk 83 w g (ordN L xs) (ordM L xs)) (hok : orderB L xs = true) : NetBlk 83 w g L.length (fun i => pm (adjB L i)) := by
  obtain ⟨hG, _, _, _⟩ := orderB_yes hok
  refine h.congr (by unfold ordN; rw [hok]; rfl) (fun i _ => ?_)
  unfold ordM
  rw [hok, ← rowM_pm hG]; rfl
theorem lat_sum {A : Nat → Nat → Bool} {n : Nat} (hA : RelP n A) (hn : n ≤ 16) (xs : List Int) : sumTo (fun i => bitsTo (pm (laterA A xs i)) 16) 16 = sumTo (fun v => szB (laterA A xs v)) n := by
  have := sumTo_split (fun i => bitsTo (pm (laterA A xs i)) 16) n (16 - n) (fun i hi _ => by
    have : laterA A xs i = fun _ => false := by
      funext j
      cases h : laterA A xs i j with
      | false => rfl
      | true => exact absurd (later_range hA h).1 (by omega)
    rw [this, pm_false, bitsTo_zero])
  rw [show n + (16 - n) = 16 from by omega] at this
  exact this
set_option maxHeartbeats 2000000 in
set_option maxRecDepth 100000 in
theorem implFillMany_any (v v1 : Value) (L : List (List Int)) (xs : List Int) (w : World) (h : GridAt w v L) (h1 : RowAt w v1 xs) : Calls Tryz.prog 106 #[.agg #[v], v1] w fun e w' => e = .returned (.int .i64 (moreI L xs)) ∧ Below w.heap.size w w' := by
  obtain ⟨a0, c0, rfl⟩ := h.slice
  have HGK : Hid (∀ w', Below w.heap.size w w' → GridAt w' (.slice a0 L.length c0) L) := fun w' hb => h.keep hb
  have HRK : Hid (∀ w', Below w.heap.size w w' → RowAt w' v1 xs) := fun w' hb => h1.keep hb
  have HB0 : Hid (Below w.heap.size w (w.alloc (.cells #[.slice a0 L.length c0] 26))) := (Below.refl _ _).alloc (Nat.le_refl _) _
  have HX0 : Hid (BoxAt (w.alloc (.cells #[.slice a0 L.length c0] 26)) w.heap.size (.slice a0 L.length c0)) := BoxAt.new _ _ _
  clear h h1
  go_enter Tryz.func106, Tryz.ntmps106
  go_wp2_with fail
  refine (orderedNet_any _ _ L xs _ (HGK.out _ HB0.out) (HRK.out _ HB0.out)).mono ?_
  rintro e w1 ⟨rfl, hb1⟩
  have HB1 : Hid (Below w.heap.size w w1) := HB0.out.trans (hb1.mono HB0.out.size)
  have HX1 := Lib.hid (HX0.out.keep hb1)
  have hz1 := HB1.out.size
  have hnb := netBlk_new w1 0 (fun _ => 0)
  clear hb1
  by_cases hok : orderB L xs = true
  · obtain ⟨hG, hO, _, _⟩ := orderB_yes hok
    have hz := hG.1
    have HI := Lib.hid hok
    have HG := Lib.hid hG
    have HO := Lib.hid hO
    have HREL := Lib.hid (adjB_rel hG)
    rw [hok]
    clear hok hG hO
    go_wp2_with (refine wpList_store_net rfl 83 (.tmp 5) (.tmp 14) rfl w1.heap.size (ordN L xs) (ordM L xs) rfl rfl Tryz.sizeNet 0 (fun _ => 0) hnb ?_; intro w3 hp; have HN3 := Lib.hid (ord_net hp.net HI.out); have HB3 : Hid (Below w.heap.size w w3) := (HB1.out.alloc hz1 _).trans (hp.below.mono hz1); have HX3 : Hid (BoxAt w3 w.heap.size (.slice a0 L.length c0)) := (HX1.out.keep ((Below.refl _ _).alloc (Nat.le_refl _) _)).keepB hp.below HX1.out.lt; clear hp)
    refine (later_any w1.heap.size L.length (adjB L) _ xs _ HN3.out hz HREL.out (HRK.out _ HB3.out) HO.out).mono ?_
    rintro e w4 ⟨rfl, hb4⟩
    obtain ⟨M, hM⟩ : ∃ M : Nat → Nat, M = fun i => pm (laterA (adjB L) xs i) := ⟨_, rfl⟩
    have HML : Hid (∀ k, M k < 65536) := fun k => by rw [hM]; exact pm_lt _
    rw [← hM]
    have HB4 : Hid (Below w.heap.size w w4) := HB3.out.trans (hb4.mono HB3.out.size)
    have HX4 := Lib.hid (HX3.out.keep hb4)
    clear hb4 hnb
    have HW : Hid (((sumTo (fun i => bitsTo (M i) 16) 16 : Nat) : Int) = manyN (adjL L.length (fillX (adjB L) xs))) := by show _ = _; rw [hM, lat_sum HREL.out hz.2 xs]; exact later_many HREL.out hz HO.out
    have HF : Hid (moreI L xs = manyN (adjL L.length (fillX (adjB L) xs)) - manyN L) := by show _ = _; unfold moreI; rw [HI.out]; rfl
    have kx := HX4.out.1
    clear hM
    go_wp2_with fail
    go_loopw [7, 20] (fun s i wr => ∃ k : Nat, k ≤ 16 ∧ i = .int .i64 k ∧ s = .int .i64 ((sumTo (fun i => bitsTo (M i) 16) k : Nat) : Int) ∧ Drawn w4 wr) (fun _ i _ => 16 - (intOf i).toNat)
    case atStart => exact ⟨0, Nat.zero_le _, rfl, rfl, Drawn.refl _⟩
    case round =>
      obtain ⟨k, hk, rfl, rfl, hd⟩ := hrel
      have hsl := sumTo_leB (f := fun i => bitsTo (M i) 16) (n := k) (b := 16) (fun i _ => bitsTo_le _ _)
      have HS : Hid (sumTo (fun i => bitsTo (M i) 16) (k + 1) = sumTo (fun i => bitsTo (M i) 16) k + bitsTo (M k) 16) := rfl
      obtain ⟨s, hs⟩ : ∃ s, s = sumTo (fun i => bitsTo (M i) 16) k := ⟨_, rfl⟩
      have HSS := Lib.hid hs
      rw [← hs] at HS hsl ⊢
      have hs256 : s ≤ 256 := by have : k * 16 ≤ 16 * 16 := Nat.mul_le_mul (by omega) (Nat.le_refl _); omega
      clear hs hsl
      have HD := Lib.hid hd
      by_cases hlt : k < 16
      · have hltI : (k : Int) < 16 := by omega
        have hix := run_index_masks M k hlt
        have hml := HML.out k
        have hbl := bitsTo_le (M k) 16
        clear hd kx
        go_wp2_with fail
        refine (size_any _ _ hml).mono ?_
        rintro e w5 ⟨rfl, hd5⟩
        have HD5 := Lib.hid (HD.out.trans hd5)
        obtain ⟨r, hr⟩ : ∃ r, r = bitsTo (M k) 16 := ⟨_, rfl⟩
        rw [← hr] at HS hbl ⊢
        clear hd5 hix hr
        go_wp2
        go_roundw
        case rel => exact ⟨k + 1, by omega, by go_num, by rw [HS.out]; first | rfl | go_num, HD5.out⟩
        case measure => simp [intOf]; omega
      · obtain rfl : k = 16 := by omega
        have HS2 : Hid ((s : Int) = manyN (adjL L.length (fillX (adjB L) xs))) := by show _ = _; rw [HSS.out, HW.out]
        have m1 := many_le (L := L)
        obtain ⟨q, hq⟩ : ∃ q, q = manyN L := ⟨_, rfl⟩
        have HQ := Lib.hid hq
        rw [← hq] at m1
        have kx5 := cell_drawn hd kx
        have HB5 : Hid (Below w.heap.size w wr) := HB4.out.trans ((hd.below _).mono HB4.out.size)
        clear hd kx hq
        go_wp2_with fail
        refine (implManyEdges_any _ L _ (HGK.out _ HB5.out)).mono ?_
        rintro e w6 ⟨rfl, hb6⟩
        rw [← HQ.out]
        have HB6 : Hid (Below w.heap.size w w6) := HB5.out.trans (hb6.mono HB5.out.size)
        clear hb6 kx5
        go_wp2
        go_ret
        exact ⟨ret_int (by rw [HF.out, ← HS2.out, ← HQ.out]), HB6.out⟩
  · have hok' : orderB L xs = false := by simpa using hok
    have HI : Hid (moreI L xs = -1) := by show _ = _; unfold moreI; rw [hok']; rfl
    rw [hok']
    clear hok hok'
    go_wp2_with (refine wpList_store_net rfl 83 (.tmp 5) (.tmp 14) rfl w1.heap.size (ordN L xs) (ordM L xs) rfl rfl Tryz.sizeNet 0 (fun _ => 0) hnb ?_; intro w3 hp; have HB3 : Hid (Below w.heap.size w w3) := (HB1.out.alloc hz1 _).trans (hp.below.mono hz1); clear hp)
    go_ret
    exact ⟨ret_int HI.out.symm, HB3.out⟩

theorem implPerfectIn_any (v v1 : Value) (L : List (List Int)) (xs : List Int) (w : World) (h : GridAt w v L) (h1 : RowAt w v1 xs) : Calls Tryz.prog 31 #[.agg #[v], v1] w fun e w' => e = .returned (.bool (perfB L xs)) ∧ Below w.heap.size w w' := by
  obtain ⟨a0, c0, rfl⟩ := h.slice
  have HB0 : Hid (Below w.heap.size w (w.alloc (.cells #[.slice a0 L.length c0] 26))) := (Below.refl _ _).alloc (Nat.le_refl _) _
  have hg := h.keep HB0.out
  have hr := h1.keep HB0.out
  clear h h1
  go_enter Tryz.func31, Tryz.ntmps31
  go_wp2_with fail
  refine (implFillMany_any _ _ L xs _ hg hr).mono ?_
  rintro e w1 ⟨rfl, hb1⟩
  have HB1 : Hid (Below w.heap.size w w1) := HB0.out.trans (hb1.mono HB0.out.size)
  have HP : Hid (perfB L xs = (moreI L xs == 0)) := rfl
  clear hb1 hg hr
  go_wp2
  go_ret
  exact ⟨ret_bool HP.out.symm, HB1.out⟩

end Go.Proofs.YtohjfcfcopbmoaaGreatDoor
