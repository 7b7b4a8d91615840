/- The texts EP1, EP2, CT1, CT2, joined. -/
import Derived.Test.YtojbaepcflkgeaaQEM3
import Derived.Test.YtojbaepcflkgeaaQLater
import Derived.BigQuiet
import Derived.Test.YtojbaepcflkgeaaEM2

/- Walks: EmbedsIn and FreeOf of the program, FreeOf of the model. -/
namespace Go.Proofs.Ytojbaepcflkgeaa
open Go.RowKit

/-- Two boxes for two graphs. -/
structure TwoG (w : World) (v v1 : Value) (Lp Lg : List (List Int)) (wr : World) : Prop where
  box0 : wr.cell? ⟨w.heap.size, 0, none⟩ = some v
  box1 : wr.cell? ⟨w.heap.size + 1, 0, none⟩ = some v1
  g0 : GridAt wr v Lp
  g1 : GridAt wr v1 Lg
  bel : Below w.heap.size w wr
  lt : w.heap.size + 2 ≤ wr.heap.size
theorem TwoG.start {w : World} {v v1 : Value} {Lp Lg : List (List Int)} (h : GridAt w v Lp) (h1 : GridAt w v1 Lg) (T : TypeId) : TwoG w v v1 Lp Lg ((w.alloc (.cells #[v] T)).alloc (.cells #[v1] T)) := by
  have ha : Below w.heap.size w ((w.alloc (.cells #[v] T)).alloc (.cells #[v1] T)) := ((Below.refl _ _).alloc (Nat.le_refl _) _).alloc (by simp) _
  exact ⟨by go_simp, by go_simp, h.keep ha, h1.keep ha, ha, by simp⟩
theorem TwoG.keep {w : World} {v v1 : Value} {Lp Lg : List (List Int)} {wr w' : World} (h : TwoG w v v1 Lp Lg wr) (hb : Below wr.heap.size wr w') : TwoG w v v1 Lp Lg w' :=
  ⟨cell_keep hb h.box0, cell_keep hb h.box1, h.g0.keep hb, h.g1.keep hb, h.bel.trans (hb.mono h.bel.size), Nat.le_trans h.lt hb.size⟩

theorem emb_first {Lp Lg : List (List Int)} (hp : SmallP Lp) (hg : GraphP Lg) : firstL (turnsL (rowM Lp) Lp.length Lg.length (rowM Lg)) = embL Lp Lg ∧ decide (turnsL (rowM Lp) Lp.length Lg.length (rowM Lg) ≠ []) = embB Lp Lg := by
  obtain ⟨h1, h2⟩ := fit_first hp.1 hg
  refine ⟨?_, ?_⟩
  · unfold embL; rw [if_pos ⟨hp, hg⟩]; exact h1
  · unfold embB
    rw [Bool.eq_iff_iff, decide_eq_true_iff, decide_eq_true_iff]
    exact ⟨fun h => ⟨hp, hg, fun e => h (h2.2 e)⟩, fun h e => h.2.2 (h2.1 e)⟩
theorem nil_own {w : World} {B : Nat} : OwnRow 2 w B (.slice none 0 0) [] := ⟨by simp, Nat.zero_le _, .inl ⟨rfl, rfl⟩⟩
theorem GaveFB.no {w w' : World} {xs : List Int} {ok : Bool} (hx : xs = []) (hk : ok = false) (hb : Below w.heap.size w w') : GaveFB w xs ok (.returned (.tuple #[.slice none 0 0, .bool false])) w' := by
  rw [hx, hk]; exact ⟨_, _, _, rfl, nil_own, hb⟩

end Go.Proofs.Ytojbaepcflkgeaa

/- Walks: AlikeIn. -/
namespace Go.Proofs.Ytojbaepcflkgeaa
open Go.RowKit

theorem al_first {La Lb : List (List Int)} (ha : SmallP La) (hb : SmallP Lb) (hl : La.length = Lb.length) : firstL (turnsL (rowM Lb) Lb.length La.length (rowM La)) = alL La Lb ∧ decide (turnsL (rowM Lb) Lb.length La.length (rowM La) ≠ []) = alB La Lb := by
  obtain ⟨h1, h2⟩ := fit_first hb.1 ha.1
  refine ⟨?_, ?_⟩
  · unfold alL; rw [if_pos ⟨ha, hb, hl⟩]; exact h1
  · unfold alB
    rw [Bool.eq_iff_iff, decide_eq_true_iff, decide_eq_true_iff]
    exact ⟨fun h => ⟨ha, hb, hl, fun e => h (h2.2 e)⟩, fun h e => h.2.2.2 (h2.1 e)⟩
theorem al_no {La Lb : List (List Int)} (h : ¬ (SmallP La ∧ SmallP Lb ∧ La.length = Lb.length)) : alL La Lb = [] ∧ alB La Lb = false := by
  refine ⟨?_, ?_⟩
  · unfold alL; rw [if_neg h]
  · unfold alB; rw [decide_eq_false (fun h' => h ⟨h'.1, h'.2.1, h'.2.2.1⟩)]

end Go.Proofs.Ytojbaepcflkgeaa

/- Walks: the model's count of the lists by which a graph stands for itself. -/
namespace Go.Proofs.Ytojbaepcflkgeaa
open Go.RowKit

theorem flat_len {f : Int → List (List Int)} {k : Nat} : ∀ (l : List Int), (∀ v ∈ l, (f v).length ≤ k) → (l.flatMap f).length ≤ l.length * k := by
  intro l
  induction l with
  | nil => intro _; simp
  | cons a t ih =>
    intro h
    rw [List.flatMap_cons, List.length_append, List.length_cons, Nat.succ_mul]
    have h1 := h a (by simp)
    have h2 := ih (fun v hv => h v (by simp [hv]))
    omega
theorem enum_many {C : List Int → Nat} : ∀ (r : Nat) (xs : List Int), (enumL C r xs).length ≤ 16 ^ r := by
  intro r
  induction r with
  | zero => intro xs; simp [enumL]
  | succ r ih =>
    intro xs
    rw [enumL]
    refine Nat.le_trans (flat_len _ (fun v _ => ih (xs ++ [v]))) ?_
    rw [Nat.pow_succ, Nat.mul_comm (16 ^ r) 16]
    exact Nat.mul_le_mul_right _ (listM_len _)
theorem enum_eight {C : List Int → Nat} {r : Nat} (hr : r ≤ 8) (xs : List Int) : (enumL C r xs).length ≤ 4294967296 := by
  refine Nat.le_trans (enum_many r xs) (Nat.le_trans (Nat.pow_le_pow_right (by omega) hr) ?_)
  decide
/-- How many lists go on with a vertex below q. -/
def cntN (C : List Int → Nat) (r : Nat) (xs : List Int) : Nat → Nat
  | 0 => 0
  | q + 1 => cntN C r xs q + if (C xs).testBit q = true then (enumL C r (xs ++ [(q : Int)])).length else 0
theorem cntN_flat {C : List Int → Nat} {r : Nat} {xs : List Int} (q : Nat) : ((((List.range q).filter (fun i => (C xs).testBit i)).map (fun i : Nat => (i : Int))).flatMap (fun v => enumL C r (xs ++ [v]))).length = cntN C r xs q := by
  induction q with
  | zero => rfl
  | succ q ih =>
    rw [List.range_succ, List.filter_append, List.map_append, List.flatMap_append, List.length_append, ih, cntN]
    by_cases h : (C xs).testBit q = true
    · rw [if_pos h, List.filter_cons_of_pos h]; simp
    · rw [if_neg h, List.filter_cons_of_neg h]; simp
theorem cntN_16 {C : List Int → Nat} {r : Nat} {xs : List Int} : cntN C r xs 16 = (enumL C (r + 1) xs).length := by rw [← cntN_flat]; rfl
theorem cntN_from {C : List Int → Nat} {r : Nat} {xs : List Int} {n : Nat} (h : ∀ v, (C xs).testBit v = true → v < n) : ∀ k, cntN C r xs (n + k) = cntN C r xs n := by
  intro k
  induction k with
  | zero => rfl
  | succ k ih => rw [← Nat.add_assoc, cntN, ih, if_neg (fun hb => by have := h _ hb; omega)]; rfl
theorem cntN_all {C : List Int → Nat} {r : Nat} {xs : List Int} {n : Nat} (hn : n ≤ 16) (h : ∀ v, (C xs).testBit v = true → v < n) : cntN C r xs n = (enumL C (r + 1) xs).length := by
  rw [← cntN_16, ← cntN_from h (16 - n), show n + (16 - n) = 16 from by omega]
theorem cntN_le {C : List Int → Nat} {r : Nat} {xs : List Int} (hr : r ≤ 8) (q : Nat) : cntN C r xs q ≤ q * 4294967296 := by
  induction q with
  | zero => simp [cntN]
  | succ q ih =>
    rw [cntN, Nat.succ_mul]
    have := enum_eight (C := C) hr (xs ++ [(q : Int)])
    split
    · exact Nat.add_le_add ih this
    · exact Nat.add_le_add ih (Nat.zero_le _)

/-- How many symmetries. -/
def symN (L : List (List Int)) : Int := if SmallP L then ((stands L L).length : Int) else 0
end Go.Proofs.Ytojbaepcflkgeaa

/- Walks: Symmetries of the program. -/
namespace Go.Proofs.Ytojbaepcflkgeaa
open Go.RowKit Go.Shelf
attribute [local go_sem] Oper.semAt_some

/-- What symmetries lays and hands back. -/
def GaveSyms (w : World) (bn n : Nat) (e : Ending) (w' : World) : Prop :=
  e = .returned (.func (.func 118) #[] #[.pointer (some ⟨w.heap.size + 2, 0, none⟩), .pointer (some ⟨w.heap.size + 3, 0, none⟩)]) ∧
    w'.cell? ⟨w.heap.size, 0, none⟩ = some (.pointer (some ⟨bn, 0, none⟩)) ∧ w'.cell? ⟨w.heap.size + 1, 0, none⟩ = some (.pointer (some ⟨bn, 0, none⟩)) ∧
    w'.cell? ⟨w.heap.size + 2, 0, none⟩ = some (.int .i64 (n : Int)) ∧ w'.cell? ⟨w.heap.size + 3, 0, none⟩ = some (.func (.func 120) #[] #[.pointer (some ⟨w.heap.size + 1, 0, none⟩), .pointer (some ⟨w.heap.size, 0, none⟩)]) ∧ Below w.heap.size w w'

set_option maxHeartbeats 2000000 in
set_option maxRecDepth 100000 in
theorem symmetries_any (bn n : Nat) (M : Nat → Nat) (w : World) (h : NetAt w bn n M) : Calls Try.prog 58 #[.pointer (some ⟨bn, 0, none⟩)] w (GaveSyms w bn n) := by
  have kn := h.1
  have KN : Hid (∀ w', Below w.heap.size w w' → w'.cell? ⟨bn, 0, none⟩ = some (.int .i64 (n : Int))) := fun w' hb => cell_keep hb kn
  clear h
  go_enter Try.func58, Try.ntmps58
  go_wp2_with fail
  go_region_held3 (fun wx => wx.cell? ⟨bn, 0, none⟩ = some (.int .i64 (n : Int))) (first | exact kn | with_reducible exact KN.out _ (Below.refl _ _).drew | exact ka | exact kc)
    (first
      | (go_at_call 90; refine (fitting_any _ _ _).mono ?_; rintro e wa ⟨rfl, hwa⟩; have HWA := Lib.hid hwa; have HBA : Hid (Below w.heap.size w wa) := (by rw [hwa]; exact ((Below.refl _ _).drew.alloc (Nat.le_refl _) _).alloc (by simp) _); have ka := KN.out _ HBA.out; clear hwa)
      | (go_at_call 89; refine (lists_any n _ _ _ _).mono ?_; rintro e wc ⟨rfl, hwc⟩; have HWC := Lib.hid hwc; have HBC : Hid (Below w.heap.size w wc) := (by rw [hwc]; exact (HBA.out.alloc HBA.out.size _).alloc (by rw [size_alloc1]; exact Nat.le_succ_of_le HBA.out.size) _); have kc := KN.out _ HBC.out; clear hwc))
  have hsa : wa.heap.size = w.heap.size + 2 := by rw [HWA.out]; simp
  have k0 : wa.cell? ⟨w.heap.size, 0, none⟩ = some (.pointer (some ⟨bn, 0, none⟩)) := by rw [HWA.out]; go_simp
  have k1 : wa.cell? ⟨w.heap.size + 1, 0, none⟩ = some (.pointer (some ⟨bn, 0, none⟩)) := by rw [HWA.out]; go_simp
  have hbac : Below wa.heap.size wa wc := by rw [HWC.out]; exact ((Below.refl _ _).alloc (Nat.le_refl _) _).alloc (by simp) _
  have k2 : wc.cell? ⟨wa.heap.size, 0, none⟩ = some (.int .i64 (n : Int)) := by rw [HWC.out]; go_simp
  have k3 : wc.cell? ⟨wa.heap.size + 1, 0, none⟩ = some (.func (.func 120) #[] #[.pointer (some ⟨w.heap.size + 1, 0, none⟩), .pointer (some ⟨w.heap.size, 0, none⟩)]) := by rw [HWC.out]; go_simp
  have HF : Hid (GaveSyms w bn n (.returned (.func (.func 118) #[] #[.pointer (some ⟨wa.heap.size, 0, none⟩), .pointer (some ⟨wa.heap.size + 1, 0, none⟩)])) wc) := by
    rw [hsa] at k2 k3
    rw [hsa]
    exact ⟨rfl, cell_keep hbac k0, cell_keep hbac k1, k2, k3, HBC.out⟩
  clear k0 k1 k2 k3 hsa hbac
  go_wp2
  go_ret
  exact HF.out

/-- So many so far. -/
def SymI (w : World) (bm : Nat) (pre : List (List Int)) (W : World) : Prop := BoxAt W bm (.int .i64 (pre.length : Int)) ∧ Below w.heap.size w W

theorem wise_stands {L : List (List Int)} (hG : GraphP L) : enumL (wiseN (patM (rowM L)) L.length L.length (hostM (rowM L))) L.length [] = stands L L := by
  rw [wise_enum hG.1.2, pat_row hG, host_row]; rfl

set_option maxHeartbeats 4000000 in
set_option maxRecDepth 100000 in
theorem implSymmetries_any (v : Value) (L : List (List Int)) (w : World) (h : GridAt w v L) : Calls Try.prog 27 #[.agg #[v]] w fun e w' => e = .returned (.int .i64 (symN L)) ∧ Below w.heap.size w w' := by
  obtain ⟨a0, c0, rfl⟩ := h.slice
  have ha : Below w.heap.size w (w.alloc (.cells #[.slice a0 L.length c0] 30)) := (Below.refl _ _).alloc (Nat.le_refl _) _
  have HG := Lib.hid (h.keep ha)
  have HA := Lib.hid ha
  clear h ha
  refine calls_marks Try.func27 rfl ?_
  simp only [Try.ntmps27, List.size_toArray, List.length_cons, List.length_nil, Nat.reduceAdd, Nat.reduceSub, Array.replicate_succ, Array.replicate_zero, List.push_toArray, List.append_toArray, List.nil_append, List.cons_append]
  go_wp2_with fail
  refine (smallNet_any _ _ _ HG.out).mono ?_
  rintro e w1 ⟨rfl, hb1⟩
  have HB1 : Hid (Below w.heap.size w w1) := HA.out.trans (hb1.mono HA.out.size)
  have hz1 : w.heap.size ≤ w1.heap.size := HB1.out.size
  have hnb := netBlk_new w1 0 (fun _ => 0)
  clear hb1 HG HA
  by_cases hS : SmallP L
  · rw [decide_eq_true hS, smArr_yes hS]
    have HS := Lib.hid hS
    have hzz := hS.1.1
    have HLT : Hid (∀ i, rowM L i < 65536) := fun i => rowM_lt (by omega) (fun v hv => (hS.1.2.1 v hv).1) i
    clear hS
    go_wp2_with (refine wpList_store_net rfl 65 (.tmp 3) (.tmp 9) rfl w1.heap.size L.length (rowM L) rfl rfl Try.sizeNet 0 (fun _ => 0) hnb ?_; intro w3 hp3; have HN3 := Lib.hid hp3.net.at; have HB3 : Hid (Below w.heap.size w w3) := (HB1.out.alloc hz1 _).trans (hp3.below.mono hz1); have hz3 : w1.heap.size < w3.heap.size := hp3.net.lt; clear hp3)
    have HBX4 := Lib.hid (BoxAt.new w3 (.int .i64 0) 2)
    have HB4 : Hid (Below w3.heap.size w3 (w3.alloc (.cells #[.int .i64 0] 2))) := (Below.refl _ _).alloc (Nat.le_refl _) _
    refine (symmetries_any w1.heap.size L.length (rowM L) _ (HN3.out.keep HB4.out)).mono ?_
    rintro e w5 ⟨rfl, k0, k1, k2, k3, hb5⟩
    simp only [size_alloc1] at k0 k1 k2 k3
    have hs5 : w3.heap.size + 1 < w5.heap.size := block_lt_of_cell k0
    have HB35 : Hid (Below w3.heap.size w3 w5) := HB4.out.trans (hb5.mono (by simp))
    have HBX5 : Hid (BoxAt w5 w3.heap.size (.int .i64 (0 : Int))) := HBX4.out.keep hb5
    have HN5 := Lib.hid (HN3.out.keep HB35.out)
    have HF5 : Hid (Below w.heap.size w w5) := HB3.out.trans (HB35.out.mono HB3.out.size)
    have HSQ := Lib.hid (lists1_seq 8 (fun k => k = w3.heap.size) w5 (w3.heap.size + 1 + 2) (w3.heap.size + 1 + 3) L.length 120 _ _ (enters_of Try.func120 (by kernel_rfl) rfl)
      (fitting1_choice (fun k => k = w3.heap.size) w5 (w3.heap.size + 1 + 1) (w3.heap.size + 1) w1.heap.size L.length (rowM L) w1.heap.size L.length (rowM L) k1 k0 HN5.out HN5.out hzz.2 hzz.2 HLT.out HLT.out (by omega) (by omega) (by omega) (by omega))
      (fun xs => wiseN_lt _ _ _ _ _) hzz.2 (fun k hk => by rw [hk]; omega) k2 k3 (by omega) (by omega))
    rw [wise_stands HS.out.1] at HSQ
    have HZ8 : Hid ((stands L L).length ≤ 4294967296) := enum_eight HS.out.2 _
    have hz5 : w.heap.size ≤ w3.heap.size := HB3.out.size
    obtain ⟨Z, hZ⟩ : ∃ Z, stands L L = Z := ⟨_, rfl⟩
    rw [hZ] at HSQ HZ8
    have HZE := Lib.hid hZ
    simp only [size_alloc1, Nat.add_assoc, Nat.reduceAdd] at HSQ ⊢
    clear k0 k1 k2 k3 hb5 HBX4 HB4 HN3 HN5 HB35 hZ hnb HLT
    go_wp2_with fail
    refine (wpIn_wide (n := 9)).1 ?_
    refine wpIn_rangeFunc_row rfl (by omega) (gf := 118) (lb := #[.pointer (some ⟨w3.heap.size + 3, 0, none⟩), .pointer (some ⟨w3.heap.size + 4, 0, none⟩)]) rfl trivial (enters_of Try.func118 (by kernel_rfl) rfl)
      HSQ.out (fun k hk => by rw [hk]; omega) rfl
      (fun pre W => SymI w w3.heap.size pre W)
      (fun _ _ _ => False)
      (fun s A B hs hb => ⟨hs.1.keepB hb (by omega), hs.2.trans (hb.mono (by omega))⟩)
      (fun _ _ _ _ _ h _ => h)
      ⟨HBX5.out, HF5.out⟩
      ?a1 ?assign ?body ?done ?stop
    case assign =>
      intro l b W K hK
      gi_wp2
      exact hK
    case body =>
      intro l pre x b W hI hsz hbl hpx hrow
      obtain ⟨hbx, hb⟩ := hI
      have hle : pre.length + 1 ≤ Z.length := by have := hpx.length_le; simpa using this
      have h8 := HZ8.out
      have hcc := hbx.1
      have hcf := hbx.2
      have hw1 : IntKind.i64.wrap ((pre.length : Int) + 1) = (pre.length : Int) + 1 := IntWalk.i64_in _ (by omega)
      have HBX := Lib.hid hbx
      have HB := Lib.hid hb
      have HL1 : Hid ((((pre ++ [x]).length : Nat) : Int) = (pre.length : Int) + 1) := by show _ = _; simp
      clear hbx hb hpx hrow h8 hle
      gi_wp2
      refine ⟨KeepsBut.setCell (T := fun k => k = w3.heap.size) _ _ _ rfl, ?_, HB.out.setCell (p := ⟨w3.heap.size, 0, none⟩) hz5 _⟩
      show BoxAt _ _ _
      rw [HL1.out]
      exact HBX.out.set _
    case done =>
      intro D W hI hD hK
      obtain ⟨hbx, hb⟩ := hI
      have hcc := hbx.1
      have HB := Lib.hid hb
      have HK := Lib.hid hK
      have hDW : D < W.heap.size := (Array.getElem?_eq_some_iff.1 hK).1
      clear hbx hb hK
      go_wp2
      refine ⟨by simp, .inl ⟨_, _, rfl, run_takeDeferred HK.out, ?_⟩⟩
      refine ⟨_, results_tmp rfl _ _ _, ?_, HB.out.trans (below_put W D _ (by omega) hDW)⟩
      unfold symN
      rw [if_pos HS.out, HZE.out]
      rfl
    case stop =>
      intro D c pre W _ _ h _ _
      exact h.elim
  · rw [decide_eq_false hS, smArr_no hS]
    have HS := Lib.hid hS
    clear hS
    go_wp2_with (refine wpList_store_net rfl 65 (.tmp 3) (.tmp 9) rfl w1.heap.size 0 (fun _ => 0) rfl rfl Try.sizeNet 0 (fun _ => 0) hnb ?_; intro w3 hp3; have HB3 : Hid (Below w.heap.size w w3) := (HB1.out.alloc hz1 _).trans (hp3.below.mono hz1); clear hp3)
    refine ⟨_, results_tmp rfl _ _ _, ?_, HB3.out⟩
    unfold symN
    rw [if_neg HS.out]
    rfl

end Go.Proofs.Ytojbaepcflkgeaa
