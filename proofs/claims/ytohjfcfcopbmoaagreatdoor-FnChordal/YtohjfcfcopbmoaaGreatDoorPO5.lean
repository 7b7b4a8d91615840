/- Walks: the least path, of the program. -/
import Derived.Test.YtohjfcfcopbmoaaGreatDoorQPO3
import Derived.Test.YtohjfcfcopbmoaaGreatDoorQY2
import Derived.Deep.RegionHeld3

namespace Go.Proofs.YtohjfcfcopbmoaaGreatDoor
open Go.RowKit Go.Shelf
attribute [local go_sem] Oper.semAt_some

theorem Tryz.infoMs : (Tryz.prog.info? 80).map (fun i => (i.zero, i.size, i.bytes)) = some (some (.int .u32 0), 1, 4) := by kernel_rfl

/-- Those that have come with distance k. -/
def gotAt (pre : List (Nat × Nat)) (k : Nat) : Nat := gotN (pre.filter (fun p => p.2 == k))
theorem gotAt_nil (k : Nat) : gotAt [] k = 0 := rfl
theorem gotAt_same (pre : List (Nat × Nat)) (x k : Nat) : gotAt (pre ++ [(x, k)]) k = gotAt pre k ||| 2 ^ x := by
  unfold gotAt
  rw [List.filter_append, show [(x, k)].filter (fun p : Nat × Nat => p.2 == k) = [(x, k)] from by simp, gotN_snoc]
theorem gotAt_other (pre : List (Nat × Nat)) (x : Nat) {k j : Nat} (h : j ≠ k) : gotAt (pre ++ [(x, k)]) j = gotAt pre j := by
  unfold gotAt
  rw [List.filter_append, show [(x, k)].filter (fun p : Nat × Nat => p.2 == j) = [] from by simp; omega, List.append_nil]
theorem gotAt_bit (pre : List (Nat × Nat)) (k u : Nat) : (gotAt pre k).testBit u = true ↔ (u, k) ∈ pre := by
  unfold gotAt
  rw [gotN_bit]
  constructor
  · rintro ⟨p, hp, rfl⟩
    rw [List.mem_filter, beq_iff_eq] at hp
    obtain ⟨a, b⟩ := p
    obtain ⟨h1, h2⟩ := hp
    dsimp only at h2
    subst h2
    exact h1
  · intro h
    exact ⟨(u, k), by rw [List.mem_filter]; simpa using h, rfl⟩
theorem gotN_lt16 (pre : List (Nat × Nat)) (h : ∀ p ∈ pre, p.1 < 16) : gotN pre < 65536 := by
  have key : ∀ (pre : List (Nat × Nat)) (m : Nat), (∀ p ∈ pre, p.1 < 16) → m < 65536 → pre.foldl (fun m p => m ||| 2 ^ p.1) m < 65536 := by
    intro pre
    induction pre with
    | nil => intro m _ hm; exact hm
    | cons q pre ih => intro m h hm; exact ih _ (fun p hp => h p (by simp [hp])) (or_lt16 hm (h q (by simp)))
  exact key pre 0 h (by omega)
theorem gotAt_lt {pre : List (Nat × Nat)} (h : ∀ p ∈ pre, p.1 < 16) (k : Nat) : gotAt pre k < 65536 := gotN_lt16 _ (fun p hp => h p (List.mem_filter.1 hp).1)
theorem gotAt_ring {A : Nat → Nat → Bool} {S : Nat → Bool} {v D : Nat} (hS : ∀ u, S u = true → u < 16) {pre : List (Nat × Nat)} (hall : ∀ p ∈ pre, AtD A S v p.2 p.1) (hpre : visTo A S v D <+: pre) {k : Nat} (hk : k < D) : gotAt pre k = ringN A S v k := bit_ext fun u => by
  rw [gotAt_bit, ringN_bit hS]
  constructor
  · intro h; exact hall _ h
  · intro h
    exact hpre.subset ((visTo_mem hS).2 ⟨hk, h⟩)

open Classical in
/-- The least path by masks; nothing where there is none. -/
noncomputable def pathN (M : Nat → Nat) (n u v : Nat) : List Int :=
  if 0 ≤ dOf (nearM M) (allS n) v u then wayD M (ringN (nearM M) (allS n) v) (dOf (nearM M) (allS n) v u).toNat u (dOf (nearM M) (allS n) v u).toNat else []
theorem pathN_at {M : Nat → Nat} {n u v k : Nat} (h : AtD (nearM M) (allS n) v k u) : pathN M n u v = wayD M (ringN (nearM M) (allS n) v) k u k := by
  unfold pathN
  rw [dOf_at h, if_pos (by omega)]
  rfl
theorem pathN_no {M : Nat → Nat} {n u v : Nat} (h : ∀ k, ¬ AtD (nearM M) (allS n) v k u) : pathN M n u v = [] := by
  unfold pathN
  rw [dOf_none h, if_neg (by omega)]

/-- The search for a path, half done. b: where the call's own blocks begin. -/
structure PathI (w : World) (b bn n u : Nat) (A : Nat → Nat → Bool) (S : Nat → Bool) (v : Nat) (pre : List (Nat × Nat)) (W : World) : Prop where
  row : W.rowIs (b + 3) 80 n (fun j => .int .u32 (gotAt pre j : Int))
  box : W.cell? ⟨b + 4, 0, none⟩ = some (.slice (some ⟨b + 3, 0, none⟩) n n)
  net : W.cell? ⟨b, 0, none⟩ = some (.pointer (some ⟨bn, 0, none⟩))
  arg : W.cell? ⟨b + 1, 0, none⟩ = some (.int .i64 (u : Int))
  res : W.heap[b + 2]? = some (.cells #[.slice none 0 0] 33 (0, 0))
  all : ∀ p ∈ pre, AtD A S v p.2 p.1 ∧ p.1 ≠ u
  bel : Below w.heap.size w W
theorem PathI.keep {w : World} {b bn n u : Nat} {A : Nat → Nat → Bool} {S : Nat → Bool} {v : Nat} {pre : List (Nat × Nat)} {W W' : World} {C : Nat} (h : PathI w b bn n u A S v pre W) (hb : Below C W W') (hC : b + 4 < C) (hw : w.heap.size ≤ C) : PathI w b bn n u A S v pre W' :=
  ⟨h.row.of_block (hb.block _ (by omega)), (hb.cell (by simp; omega)).trans h.box, (hb.cell (by simp; omega)).trans h.net, (hb.cell (by simp; omega)).trans h.arg, (hb.block _ (by omega)).trans h.res, h.all, h.bel.trans (hb.mono hw)⟩
/-- The path is laid. -/
def PathD (w : World) (b : Nat) (xs : List Int) (W : World) : Prop :=
  ∃ val, W.heap[b + 2]? = some (.cells #[val] 33 (0, 0)) ∧ OwnRow 2 W b val xs ∧ Below w.heap.size w W
theorem PathD.put {w : World} {b : Nat} {xs : List Int} {A : World} {l : Nat} {r : Loop} (h : PathD w b xs A) (hl : w.heap.size ≤ l) (ho : A.heap[l]? = some (.loop r)) (o : Obj) : PathD w b xs (A.putObj l o) := by
  obtain ⟨val, h3, h4, h5⟩ := h
  have hk : ∀ (k : Nat) (cs : Array Value) (U : TypeId) (fr : Nat × Nat), A.heap[k]? = some (Obj.cells cs U fr) → (A.putObj l o).heap[k]? = some (Obj.cells cs U fr) := fun k cs U fr hh => by
    refine (World.putObj_heap_other (fun e => ?_)).trans hh
    subst e; rw [ho] at hh; cases hh
  exact ⟨val, hk _ _ _ _ h3, h4.kept (fun k cs fr => hk k cs _ fr), h5.trans (below_put A l o hl (Array.getElem?_eq_some_iff.1 ho).1)⟩

set_option maxHeartbeats 8000000 in
set_option maxRecDepth 100000 in
theorem path_full (bn n u v : Nat) (M : Nat → Nat) (w : World) (h : NetAt w bn n M) (hT : TabAt w) (hM : ∀ i, M i < 65536) (hn : 1 ≤ n ∧ n ≤ 16) (hA : ∀ a b, nearM M a b = nearM M b a) (hu : u < n) (hv : v < n) :
    Calls Tryz.prog 189 #[.pointer (some ⟨bn, 0, none⟩), .int .i64 (u : Int), .int .i64 (v : Int)] w (fun e w' => GaveRow w (pathN M n u v) e w' ∧ (pathN M n u v = [] → e = .returned (.slice none 0 0))) := by
  have hbn : bn < w.heap.size := block_lt_of_cell h.1
  have hmk := run_make_row' (P := Tryz.prog) 222 80 (.int .u32 0) 4 Tryz.underlying222 Tryz.infoMs rfl .i64 .i64 n (by omega) (by omega)
  have knA : (((w.alloc (.cells #[.pointer (some ⟨bn, 0, none⟩)] 191)).alloc (.cells #[.int .i64 (u : Int)] 2)).alloc (.cells #[.slice none 0 0] 33)).cell? ⟨bn, 0, none⟩ = some (.int .i64 (n : Int)) := cell_keep ((((Below.refl _ _).alloc (Nat.le_refl _) _).alloc (by simp) _).alloc (by simp; omega) _) h.1
  have kt : (((w.alloc (.cells #[.pointer (some ⟨bn, 0, none⟩)] 191)).alloc (.cells #[.int .i64 (u : Int)] 2)).alloc (.cells #[.slice none 0 0] 33)).cell? ⟨w.heap.size, 0, none⟩ = some (.pointer (some ⟨bn, 0, none⟩)) := by go_simp
  have ku : (((w.alloc (.cells #[.pointer (some ⟨bn, 0, none⟩)] 191)).alloc (.cells #[.int .i64 (u : Int)] 2)).alloc (.cells #[.slice none 0 0] 33)).cell? ⟨w.heap.size + 1, 0, none⟩ = some (.int .i64 (u : Int)) := by go_simp
  obtain ⟨W3, hW3⟩ : ∃ W3, ((w.alloc (.cells #[.pointer (some ⟨bn, 0, none⟩)] 191)).alloc (.cells #[.int .i64 (u : Int)] 2)).alloc (.cells #[.slice none 0 0] 33) = W3 := ⟨_, rfl⟩
  rw [hW3] at kt ku
  have hs3 : W3.heap.size = w.heap.size + 3 := by rw [← hW3]; simp
  have hb3 : Below w.heap.size w W3 := by rw [← hW3]; exact (((Below.refl _ _).alloc (Nat.le_refl _) _).alloc (by simp) _).alloc (by simp; omega) _
  obtain ⟨W5, hW5⟩ : ∃ W5, (W3.alloc (.cells (madeCells #[.int .u32 0] n) 80)).alloc (.cells #[.slice (some ⟨W3.heap.size, 0, none⟩) n n] 222) = W5 := ⟨_, rfl⟩
  have hs5 : W5.heap.size = w.heap.size + 5 := by rw [← hW5]; simp [hs3]
  have hb5 : Below W3.heap.size W3 W5 := by rw [← hW5]; exact ((Below.refl _ _).alloc (Nat.le_refl _) _).alloc (by simp) _
  have kn := cell_keep hb3 h.1
  have HPI : Hid (PathI w w.heap.size bn n u (nearM M) (allS n) v [] W5) := by
    refine ⟨?_, ?_, cell_keep hb5 kt, ?_, ?_, fun p hp => absurd hp (by simp), hb3.trans (hb5.mono (by omega))⟩
    · have h1 := World.rowIs_made W3 (.int .u32 0) n 80
      rw [hs3] at h1
      rw [← hW5]
      refine (h1.of_block (Below.heap_alloc _ _ _ (by simp; omega))).congr (fun i hi => by rw [gotAt_nil]; rfl)
    · rw [← hW5, ← hs3]
      have h1 := BoxAt.new (W3.alloc (.cells (madeCells #[.int .u32 0] n) 80)) (.slice (some ⟨W3.heap.size, 0, none⟩) n n) 222
      rw [World.size_alloc] at h1
      have h2 := h1.1
      rwa [show w.heap.size + 4 = W3.heap.size + 1 from by omega]
    · exact cell_keep hb5 ku
    · rw [hb5.block _ (by omega), ← hW3]
      have h1 := World.alloc_heap_new ((w.alloc (.cells #[.pointer (some ⟨bn, 0, none⟩)] 191)).alloc (.cells #[.int .i64 (u : Int)] 2)) (.cells #[.slice none 0 0] 33)
      simp only [World.size_alloc] at h1
      exact h1
  have HNK : Hid (∀ W, Below w.heap.size w W → NetAt W bn n M ∧ TabAt W) := fun W hW => ⟨h.keep hW, hT.keep hW⟩
  have HB5 : Hid (Below w.heap.size w W5) := hb3.trans (hb5.mono (by omega))
  have kt5 := cell_keep hb5 kt
  have kn5 := cell_keep hb5 kn
  have HS3 := Lib.hid hs3
  have HS5 := Lib.hid hs5
  have HW3 := Lib.hid hW3
  have HW5 := Lib.hid hW5
  clear hs3 hs5 hW3 hW5 hb3 hb5 h hT
  refine calls_marks Tryz.func189 rfl ?_
  simp only [Tryz.ntmps189, List.size_toArray, List.length_cons, List.length_nil, Nat.reduceAdd, Nat.reduceSub, Array.replicate_succ, Array.replicate_zero, List.push_toArray, List.append_toArray, List.nil_append, List.cons_append]
  clear ku
  go_wp2_with fail
  simp only [Nat.add_assoc, Nat.reduceAdd]
  rw [HW3.out]
  rw [← HS3.out, HW5.out]
  simp only [HS3.out]
  clear kt kn knA hmk
  go_region_held3 (fun wx => wx.cell? ⟨w.heap.size, 0, none⟩ = some (.pointer (some ⟨bn, 0, none⟩)) ∧ wx.cell? ⟨bn, 0, none⟩ = some (.int .i64 (n : Int))) (first | exact ⟨kt5, kn5⟩ | exact ⟨kta, kna⟩ | exact ⟨ktb, knb⟩)
    (first
      | (go_at_call 186; refine (wholeMask_any n _ hn.2).mono ?_; rintro e wa ⟨rfl, hwa⟩; have HBA : Hid (Below W5.heap.size W5 wa) := (by rw [← hwa]; exact (Below.refl _ _).drew); have HSA : Hid (wa.heap.size = W5.heap.size) := (by show _ = _; rw [← hwa]; rfl); have kta := cell_keep HBA.out kt5; have kna := cell_keep HBA.out kn5; clear hwa)
      | (go_at_call 239; refine (visits_any _ _ _ _).mono ?_; rintro e wb ⟨rfl, hwb⟩; have HWB := Lib.hid hwb; have HBB : Hid (Below W5.heap.size W5 wb) := (by rw [hwb]; exact HBA.out.trans (((((Below.refl _ _).alloc (Nat.le_refl _) _).alloc (by simp) _).alloc (by simp; omega) _).mono HBA.out.size)); have ktb := cell_keep HBB.out kt5; have knb := cell_keep HBB.out kn5; clear hwb))
  have hsb : wb.heap.size = w.heap.size + 8 := by rw [HWB.out]; simp; have := HSA.out; have := HS5.out; omega
  have hsA : wa.heap.size = w.heap.size + 5 := by rw [HSA.out, HS5.out]
  have HV : Hid (VisIn wb (w.heap.size + 6) (w.heap.size + 7) (w.heap.size + 5) bn n M v (2 ^ n - 1)) := by
    refine ⟨?_, ?_, ?_, (HNK.out _ (HB5.out.trans (HBB.out.mono HB5.out.size))).1⟩
    · rw [HWB.out, ← show wa.heap.size + 1 = w.heap.size + 6 from by omega]; go_simp
    · rw [HWB.out, ← show wa.heap.size + 2 = w.heap.size + 7 from by omega]; go_simp
    · rw [HWB.out, ← hsA]; go_simp
  have H0 : Hid (PathI w w.heap.size bn n u (nearM M) (allS n) v [] wb) := HPI.out.keep HBB.out (by rw [HS5.out]; omega) (by rw [HS5.out]; omega)
  have hwl := whole_lt (n := n) hn.2
  have hwb2 : (2 ^ n - 1).testBit v = true := by rw [whole_bit]; simpa using hv
  have HSQ := Lib.hid (visits1_seq (fun k => k = w.heap.size + 3) 8 (w.heap.size + 6) (w.heap.size + 7) (w.heap.size + 5) bn n M v (2 ^ n - 1) wb hM hwl (by omega) hwb2 HV.out ⟨by omega, by omega, by omega, by omega⟩ (fun k hk => by rw [hk]; omega))
  rw [bitS_whole] at HSQ
  have hS16 : ∀ x, allS n x = true → x < 16 := fun x hx => by have := (allS_iff _ _).1 hx; omega
  have HS16 := Lib.hid hS16
  have HMA : Hid (∀ a b, nearM M a b = (M a).testBit b) := fun _ _ => rfl
  have HAS := Lib.hid hA
  have HSB := Lib.hid hsb
  have hsb1 : w.heap.size + 8 ≤ wb.heap.size := by omega
  rw [hsA]
  simp only [Nat.add_assoc, Nat.reduceAdd]
  clear HPI HV hS16 hA kta kna ktb knb kt5 kn5 hwl hwb2 hsb hsA HWB HBA HSA HBB
  have hmix : Tryz.prog.follows .mixedOrders = true := by kernel_rfl
  go_wp2_with fail
  refine (wpIn_wide (n := 9)).1 ?_
  refine wpIn_rangeFunc_vis rfl (by omega) (gf := 279) (lb := #[.pointer (some ⟨w.heap.size + 6, 0, none⟩), .pointer (some ⟨w.heap.size + 7, 0, none⟩), .pointer (some ⟨w.heap.size + 5, 0, none⟩)]) rfl trivial (enters_of Tryz.func279 (by kernel_rfl) rfl)
    HSQ.out (fun k hk => by rw [hk]; omega) (fun _ => rfl)
    (fun pre W => PathI w w.heap.size bn n u (nearM M) (allS n) v pre W)
    (fun c _ W => c = .ret ∧ pathN M n u v ≠ [] ∧ PathD w w.heap.size (pathN M n u v) W)
    (fun s A B hs hb => hs.keep hb (by omega) (by omega))
    (fun _ _ _ _ o hs hl => ⟨hs.1, hs.2.1, hs.2.2.put (by omega) hl o⟩)
    H0.out
    ?a1 ?assign ?body ?done ?stop
  case assign =>
    intro l x W K hK
    simp only [encP]
    gi_wp2
    exact hK
  case body =>
    rintro l pre ⟨x, k⟩ W hI hsz ⟨hat, hk16, hpre⟩
    dsimp only at hat hk16 hpre
    have hxn : x < n := (allS_iff _ _).1 (wk_in hat.1)
    have hkn' : k < n := atD_lt (fun y hy => (allS_iff _ _).1 hy) hat
    have hbt := hI.net
    have hbu := hI.arg
    have hbr := hI.box
    have hgl : ∀ j, gotAt pre j < 65536 := gotAt_lt (fun p hp => HS16.out _ (wk_in (hI.all p hp).1.1))
    have HGL := Lib.hid hgl
    have HI := Lib.hid hI
    have HAT := Lib.hid hat
    have HPRE := Lib.hid hpre
    have hkn : (k : Int) ≤ (n : Int) := by omega
    have hkn2 : (k : Int) < (n : Int) := by omega
    have hk0 : (0 : Int) ≤ (k : Int) := by omega
    clear hI hat hpre hgl HSQ H0
    by_cases hxu : x = u
    · subst hxu
      have hgr : ∀ j, j < k → gotAt pre j = ringN (nearM M) (allS n) v j := fun j hj => gotAt_ring HS16.out (fun p hp => (HI.out.all p hp).1) HPRE.out hj
      have hstep := curD_step (M := M) HAS.out hM HMA.out HS16.out HAT.out
      have HE : Hid (wayD M (gotAt pre) k x k = pathN M n x v) := by
        show _ = _
        rw [pathN_at HAT.out]
        exact wayD_congr hgr k (Nat.le_refl _)
      have HNN : Hid (pathN M n x v ≠ []) := fun e => by have h9 := wayD_len M (gotAt pre) k x k; rw [HE.out, e] at h9; simp at h9
      have HCC : Hid (∀ i, i ≤ k → curD M (gotAt pre) k x i < 16) := fun i hi => by rw [curD_congr hgr i hi]; exact HS16.out _ (wk_in (hstep i hi).1.1)
      have HNE : Hid (∀ i, i < k → M (curD M (gotAt pre) k x i) &&& gotAt pre (k - 1 - i) ≠ 0) := fun i hi => by rw [curD_congr hgr i (by omega), hgr _ (by omega)]; exact (hstep i (by omega)).2 hi
      have HRG : Hid (RingsAt W.drew (w.heap.size + 3) n k (gotAt pre)) := ⟨by omega, by unfold maxLen; omega, fun i hi => cell_keep (Below.refl _ _).drew (HI.out.row.cell (by omega))⟩
      obtain ⟨hNet, hTab⟩ := HNK.out W.drew HI.out.bel.drew
      have HNet := Lib.hid hNet
      have HTab := Lib.hid hTab
      have hlow : w.heap.size + 3 < W.drew.heap.size := by simp; omega
      clear hgr hstep hNet hTab
      gi_wp2_with fail
      refine wpIn_region_any hmix ?_
      refine lead (G := ?G) ?pre ?tail
      case pre =>
        intro g
        refine anyIn_four 0 1 2 3 (by kernel_rfl) ?_ ?_ ?_ ?_
        · refine opIn_at rfl rfl ?_
          simp [go_sem, Oper.wpIn, Oper.about, Oper.uponIn, hbt]
          refine anyIn_three 1 2 3 (by kernel_rfl) ?_ ?_ ?_
          · refine opIn_at rfl rfl ?_
            simp [go_sem, Oper.wpIn, Oper.about, Oper.uponIn, hbu]
            refine anyIn_two 2 3 (by kernel_rfl) ?_ ?_
            · refine opIn_at rfl rfl ?_
              simp [go_sem, Oper.wpIn, Oper.about, Oper.uponIn, hbr]
              refine anyIn_one 3 (by kernel_rfl) ?_
              refine opIn_at rfl rfl ?_
              simp [go_sem, Oper.wpIn, Oper.about, Oper.uponIn]
              refine anyIn_one 4 (by kernel_rfl) ?_
              refine opIn_at rfl rfl ?_
              simp [go_sem, Oper.wpIn, Oper.about, Oper.uponIn, hkn, hk0]
              exact g
            · refine opIn_at rfl rfl ?_
              simp [go_sem, Oper.wpIn, Oper.about, Oper.uponIn]
              refine anyIn_one 2 (by kernel_rfl) ?_
              refine opIn_at rfl rfl ?_
              simp [go_sem, Oper.wpIn, Oper.about, Oper.uponIn, hbr]
              refine anyIn_one 4 (by kernel_rfl) ?_
              refine opIn_at rfl rfl ?_
              simp [go_sem, Oper.wpIn, Oper.about, Oper.uponIn, hkn, hk0]
              exact g
          · refine opIn_at rfl rfl ?_
            simp [go_sem, Oper.wpIn, Oper.about, Oper.uponIn, hbr]
            refine anyIn_two 1 3 (by kernel_rfl) ?_ ?_
            · refine opIn_at rfl rfl ?_
              simp [go_sem, Oper.wpIn, Oper.about, Oper.uponIn, hbu]
              refine anyIn_one 3 (by kernel_rfl) ?_
              refine opIn_at rfl rfl ?_
              simp [go_sem, Oper.wpIn, Oper.about, Oper.uponIn]
              refine anyIn_one 4 (by kernel_rfl) ?_
              refine opIn_at rfl rfl ?_
              simp [go_sem, Oper.wpIn, Oper.about, Oper.uponIn, hkn, hk0]
              exact g
            · refine opIn_at rfl rfl ?_
              simp [go_sem, Oper.wpIn, Oper.about, Oper.uponIn]
              refine anyIn_two 1 4 (by kernel_rfl) ?_ ?_
              · refine opIn_at rfl rfl ?_
                simp [go_sem, Oper.wpIn, Oper.about, Oper.uponIn, hbu]
                refine anyIn_one 4 (by kernel_rfl) ?_
                refine opIn_at rfl rfl ?_
                simp [go_sem, Oper.wpIn, Oper.about, Oper.uponIn, hkn, hk0]
                exact g
              · refine opIn_at rfl rfl ?_
                simp [go_sem, Oper.wpIn, Oper.about, Oper.uponIn, hkn, hk0]
                refine anyIn_one 1 (by kernel_rfl) ?_
                refine opIn_at rfl rfl ?_
                simp [go_sem, Oper.wpIn, Oper.about, Oper.uponIn, hbu]
                exact g
          · refine opIn_at rfl rfl ?_
            simp [go_sem, Oper.wpIn, Oper.about, Oper.uponIn]
            refine anyIn_two 1 2 (by kernel_rfl) ?_ ?_
            · refine opIn_at rfl rfl ?_
              simp [go_sem, Oper.wpIn, Oper.about, Oper.uponIn, hbu]
              refine anyIn_one 2 (by kernel_rfl) ?_
              refine opIn_at rfl rfl ?_
              simp [go_sem, Oper.wpIn, Oper.about, Oper.uponIn, hbr]
              refine anyIn_one 4 (by kernel_rfl) ?_
              refine opIn_at rfl rfl ?_
              simp [go_sem, Oper.wpIn, Oper.about, Oper.uponIn, hkn, hk0]
              exact g
            · refine opIn_at rfl rfl ?_
              simp [go_sem, Oper.wpIn, Oper.about, Oper.uponIn, hbr]
              refine anyIn_two 1 4 (by kernel_rfl) ?_ ?_
              · refine opIn_at rfl rfl ?_
                simp [go_sem, Oper.wpIn, Oper.about, Oper.uponIn, hbu]
                refine anyIn_one 4 (by kernel_rfl) ?_
                refine opIn_at rfl rfl ?_
                simp [go_sem, Oper.wpIn, Oper.about, Oper.uponIn, hkn, hk0]
                exact g
              · refine opIn_at rfl rfl ?_
                simp [go_sem, Oper.wpIn, Oper.about, Oper.uponIn, hkn, hk0]
                refine anyIn_one 1 (by kernel_rfl) ?_
                refine opIn_at rfl rfl ?_
                simp [go_sem, Oper.wpIn, Oper.about, Oper.uponIn, hbu]
                exact g
        · refine opIn_at rfl rfl ?_
          simp [go_sem, Oper.wpIn, Oper.about, Oper.uponIn, hbu]
          refine anyIn_three 0 2 3 (by kernel_rfl) ?_ ?_ ?_
          · refine opIn_at rfl rfl ?_
            simp [go_sem, Oper.wpIn, Oper.about, Oper.uponIn, hbt]
            refine anyIn_two 2 3 (by kernel_rfl) ?_ ?_
            · refine opIn_at rfl rfl ?_
              simp [go_sem, Oper.wpIn, Oper.about, Oper.uponIn, hbr]
              refine anyIn_one 3 (by kernel_rfl) ?_
              refine opIn_at rfl rfl ?_
              simp [go_sem, Oper.wpIn, Oper.about, Oper.uponIn]
              refine anyIn_one 4 (by kernel_rfl) ?_
              refine opIn_at rfl rfl ?_
              simp [go_sem, Oper.wpIn, Oper.about, Oper.uponIn, hkn, hk0]
              exact g
            · refine opIn_at rfl rfl ?_
              simp [go_sem, Oper.wpIn, Oper.about, Oper.uponIn]
              refine anyIn_one 2 (by kernel_rfl) ?_
              refine opIn_at rfl rfl ?_
              simp [go_sem, Oper.wpIn, Oper.about, Oper.uponIn, hbr]
              refine anyIn_one 4 (by kernel_rfl) ?_
              refine opIn_at rfl rfl ?_
              simp [go_sem, Oper.wpIn, Oper.about, Oper.uponIn, hkn, hk0]
              exact g
          · refine opIn_at rfl rfl ?_
            simp [go_sem, Oper.wpIn, Oper.about, Oper.uponIn, hbr]
            refine anyIn_two 0 3 (by kernel_rfl) ?_ ?_
            · refine opIn_at rfl rfl ?_
              simp [go_sem, Oper.wpIn, Oper.about, Oper.uponIn, hbt]
              refine anyIn_one 3 (by kernel_rfl) ?_
              refine opIn_at rfl rfl ?_
              simp [go_sem, Oper.wpIn, Oper.about, Oper.uponIn]
              refine anyIn_one 4 (by kernel_rfl) ?_
              refine opIn_at rfl rfl ?_
              simp [go_sem, Oper.wpIn, Oper.about, Oper.uponIn, hkn, hk0]
              exact g
            · refine opIn_at rfl rfl ?_
              simp [go_sem, Oper.wpIn, Oper.about, Oper.uponIn]
              refine anyIn_two 0 4 (by kernel_rfl) ?_ ?_
              · refine opIn_at rfl rfl ?_
                simp [go_sem, Oper.wpIn, Oper.about, Oper.uponIn, hbt]
                refine anyIn_one 4 (by kernel_rfl) ?_
                refine opIn_at rfl rfl ?_
                simp [go_sem, Oper.wpIn, Oper.about, Oper.uponIn, hkn, hk0]
                exact g
              · refine opIn_at rfl rfl ?_
                simp [go_sem, Oper.wpIn, Oper.about, Oper.uponIn, hkn, hk0]
                refine anyIn_one 0 (by kernel_rfl) ?_
                refine opIn_at rfl rfl ?_
                simp [go_sem, Oper.wpIn, Oper.about, Oper.uponIn, hbt]
                exact g
          · refine opIn_at rfl rfl ?_
            simp [go_sem, Oper.wpIn, Oper.about, Oper.uponIn]
            refine anyIn_two 0 2 (by kernel_rfl) ?_ ?_
            · refine opIn_at rfl rfl ?_
              simp [go_sem, Oper.wpIn, Oper.about, Oper.uponIn, hbt]
              refine anyIn_one 2 (by kernel_rfl) ?_
              refine opIn_at rfl rfl ?_
              simp [go_sem, Oper.wpIn, Oper.about, Oper.uponIn, hbr]
              refine anyIn_one 4 (by kernel_rfl) ?_
              refine opIn_at rfl rfl ?_
              simp [go_sem, Oper.wpIn, Oper.about, Oper.uponIn, hkn, hk0]
              exact g
            · refine opIn_at rfl rfl ?_
              simp [go_sem, Oper.wpIn, Oper.about, Oper.uponIn, hbr]
              refine anyIn_two 0 4 (by kernel_rfl) ?_ ?_
              · refine opIn_at rfl rfl ?_
                simp [go_sem, Oper.wpIn, Oper.about, Oper.uponIn, hbt]
                refine anyIn_one 4 (by kernel_rfl) ?_
                refine opIn_at rfl rfl ?_
                simp [go_sem, Oper.wpIn, Oper.about, Oper.uponIn, hkn, hk0]
                exact g
              · refine opIn_at rfl rfl ?_
                simp [go_sem, Oper.wpIn, Oper.about, Oper.uponIn, hkn, hk0]
                refine anyIn_one 0 (by kernel_rfl) ?_
                refine opIn_at rfl rfl ?_
                simp [go_sem, Oper.wpIn, Oper.about, Oper.uponIn, hbt]
                exact g
        · refine opIn_at rfl rfl ?_
          simp [go_sem, Oper.wpIn, Oper.about, Oper.uponIn, hbr]
          refine anyIn_three 0 1 3 (by kernel_rfl) ?_ ?_ ?_
          · refine opIn_at rfl rfl ?_
            simp [go_sem, Oper.wpIn, Oper.about, Oper.uponIn, hbt]
            refine anyIn_two 1 3 (by kernel_rfl) ?_ ?_
            · refine opIn_at rfl rfl ?_
              simp [go_sem, Oper.wpIn, Oper.about, Oper.uponIn, hbu]
              refine anyIn_one 3 (by kernel_rfl) ?_
              refine opIn_at rfl rfl ?_
              simp [go_sem, Oper.wpIn, Oper.about, Oper.uponIn]
              refine anyIn_one 4 (by kernel_rfl) ?_
              refine opIn_at rfl rfl ?_
              simp [go_sem, Oper.wpIn, Oper.about, Oper.uponIn, hkn, hk0]
              exact g
            · refine opIn_at rfl rfl ?_
              simp [go_sem, Oper.wpIn, Oper.about, Oper.uponIn]
              refine anyIn_two 1 4 (by kernel_rfl) ?_ ?_
              · refine opIn_at rfl rfl ?_
                simp [go_sem, Oper.wpIn, Oper.about, Oper.uponIn, hbu]
                refine anyIn_one 4 (by kernel_rfl) ?_
                refine opIn_at rfl rfl ?_
                simp [go_sem, Oper.wpIn, Oper.about, Oper.uponIn, hkn, hk0]
                exact g
              · refine opIn_at rfl rfl ?_
                simp [go_sem, Oper.wpIn, Oper.about, Oper.uponIn, hkn, hk0]
                refine anyIn_one 1 (by kernel_rfl) ?_
                refine opIn_at rfl rfl ?_
                simp [go_sem, Oper.wpIn, Oper.about, Oper.uponIn, hbu]
                exact g
          · refine opIn_at rfl rfl ?_
            simp [go_sem, Oper.wpIn, Oper.about, Oper.uponIn, hbu]
            refine anyIn_two 0 3 (by kernel_rfl) ?_ ?_
            · refine opIn_at rfl rfl ?_
              simp [go_sem, Oper.wpIn, Oper.about, Oper.uponIn, hbt]
              refine anyIn_one 3 (by kernel_rfl) ?_
              refine opIn_at rfl rfl ?_
              simp [go_sem, Oper.wpIn, Oper.about, Oper.uponIn]
              refine anyIn_one 4 (by kernel_rfl) ?_
              refine opIn_at rfl rfl ?_
              simp [go_sem, Oper.wpIn, Oper.about, Oper.uponIn, hkn, hk0]
              exact g
            · refine opIn_at rfl rfl ?_
              simp [go_sem, Oper.wpIn, Oper.about, Oper.uponIn]
              refine anyIn_two 0 4 (by kernel_rfl) ?_ ?_
              · refine opIn_at rfl rfl ?_
                simp [go_sem, Oper.wpIn, Oper.about, Oper.uponIn, hbt]
                refine anyIn_one 4 (by kernel_rfl) ?_
                refine opIn_at rfl rfl ?_
                simp [go_sem, Oper.wpIn, Oper.about, Oper.uponIn, hkn, hk0]
                exact g
              · refine opIn_at rfl rfl ?_
                simp [go_sem, Oper.wpIn, Oper.about, Oper.uponIn, hkn, hk0]
                refine anyIn_one 0 (by kernel_rfl) ?_
                refine opIn_at rfl rfl ?_
                simp [go_sem, Oper.wpIn, Oper.about, Oper.uponIn, hbt]
                exact g
          · refine opIn_at rfl rfl ?_
            simp [go_sem, Oper.wpIn, Oper.about, Oper.uponIn]
            refine anyIn_three 0 1 4 (by kernel_rfl) ?_ ?_ ?_
            · refine opIn_at rfl rfl ?_
              simp [go_sem, Oper.wpIn, Oper.about, Oper.uponIn, hbt]
              refine anyIn_two 1 4 (by kernel_rfl) ?_ ?_
              · refine opIn_at rfl rfl ?_
                simp [go_sem, Oper.wpIn, Oper.about, Oper.uponIn, hbu]
                refine anyIn_one 4 (by kernel_rfl) ?_
                refine opIn_at rfl rfl ?_
                simp [go_sem, Oper.wpIn, Oper.about, Oper.uponIn, hkn, hk0]
                exact g
              · refine opIn_at rfl rfl ?_
                simp [go_sem, Oper.wpIn, Oper.about, Oper.uponIn, hkn, hk0]
                refine anyIn_one 1 (by kernel_rfl) ?_
                refine opIn_at rfl rfl ?_
                simp [go_sem, Oper.wpIn, Oper.about, Oper.uponIn, hbu]
                exact g
            · refine opIn_at rfl rfl ?_
              simp [go_sem, Oper.wpIn, Oper.about, Oper.uponIn, hbu]
              refine anyIn_two 0 4 (by kernel_rfl) ?_ ?_
              · refine opIn_at rfl rfl ?_
                simp [go_sem, Oper.wpIn, Oper.about, Oper.uponIn, hbt]
                refine anyIn_one 4 (by kernel_rfl) ?_
                refine opIn_at rfl rfl ?_
                simp [go_sem, Oper.wpIn, Oper.about, Oper.uponIn, hkn, hk0]
                exact g
              · refine opIn_at rfl rfl ?_
                simp [go_sem, Oper.wpIn, Oper.about, Oper.uponIn, hkn, hk0]
                refine anyIn_one 0 (by kernel_rfl) ?_
                refine opIn_at rfl rfl ?_
                simp [go_sem, Oper.wpIn, Oper.about, Oper.uponIn, hbt]
                exact g
            · refine opIn_at rfl rfl ?_
              simp [go_sem, Oper.wpIn, Oper.about, Oper.uponIn, hkn, hk0]
              refine anyIn_two 0 1 (by kernel_rfl) ?_ ?_
              · refine opIn_at rfl rfl ?_
                simp [go_sem, Oper.wpIn, Oper.about, Oper.uponIn, hbt]
                refine anyIn_one 1 (by kernel_rfl) ?_
                refine opIn_at rfl rfl ?_
                simp [go_sem, Oper.wpIn, Oper.about, Oper.uponIn, hbu]
                exact g
              · refine opIn_at rfl rfl ?_
                simp [go_sem, Oper.wpIn, Oper.about, Oper.uponIn, hbu]
                refine anyIn_one 0 (by kernel_rfl) ?_
                refine opIn_at rfl rfl ?_
                simp [go_sem, Oper.wpIn, Oper.about, Oper.uponIn, hbt]
                exact g
        · refine opIn_at rfl rfl ?_
          simp [go_sem, Oper.wpIn, Oper.about, Oper.uponIn]
          refine anyIn_three 0 1 2 (by kernel_rfl) ?_ ?_ ?_
          · refine opIn_at rfl rfl ?_
            simp [go_sem, Oper.wpIn, Oper.about, Oper.uponIn, hbt]
            refine anyIn_two 1 2 (by kernel_rfl) ?_ ?_
            · refine opIn_at rfl rfl ?_
              simp [go_sem, Oper.wpIn, Oper.about, Oper.uponIn, hbu]
              refine anyIn_one 2 (by kernel_rfl) ?_
              refine opIn_at rfl rfl ?_
              simp [go_sem, Oper.wpIn, Oper.about, Oper.uponIn, hbr]
              refine anyIn_one 4 (by kernel_rfl) ?_
              refine opIn_at rfl rfl ?_
              simp [go_sem, Oper.wpIn, Oper.about, Oper.uponIn, hkn, hk0]
              exact g
            · refine opIn_at rfl rfl ?_
              simp [go_sem, Oper.wpIn, Oper.about, Oper.uponIn, hbr]
              refine anyIn_two 1 4 (by kernel_rfl) ?_ ?_
              · refine opIn_at rfl rfl ?_
                simp [go_sem, Oper.wpIn, Oper.about, Oper.uponIn, hbu]
                refine anyIn_one 4 (by kernel_rfl) ?_
                refine opIn_at rfl rfl ?_
                simp [go_sem, Oper.wpIn, Oper.about, Oper.uponIn, hkn, hk0]
                exact g
              · refine opIn_at rfl rfl ?_
                simp [go_sem, Oper.wpIn, Oper.about, Oper.uponIn, hkn, hk0]
                refine anyIn_one 1 (by kernel_rfl) ?_
                refine opIn_at rfl rfl ?_
                simp [go_sem, Oper.wpIn, Oper.about, Oper.uponIn, hbu]
                exact g
          · refine opIn_at rfl rfl ?_
            simp [go_sem, Oper.wpIn, Oper.about, Oper.uponIn, hbu]
            refine anyIn_two 0 2 (by kernel_rfl) ?_ ?_
            · refine opIn_at rfl rfl ?_
              simp [go_sem, Oper.wpIn, Oper.about, Oper.uponIn, hbt]
              refine anyIn_one 2 (by kernel_rfl) ?_
              refine opIn_at rfl rfl ?_
              simp [go_sem, Oper.wpIn, Oper.about, Oper.uponIn, hbr]
              refine anyIn_one 4 (by kernel_rfl) ?_
              refine opIn_at rfl rfl ?_
              simp [go_sem, Oper.wpIn, Oper.about, Oper.uponIn, hkn, hk0]
              exact g
            · refine opIn_at rfl rfl ?_
              simp [go_sem, Oper.wpIn, Oper.about, Oper.uponIn, hbr]
              refine anyIn_two 0 4 (by kernel_rfl) ?_ ?_
              · refine opIn_at rfl rfl ?_
                simp [go_sem, Oper.wpIn, Oper.about, Oper.uponIn, hbt]
                refine anyIn_one 4 (by kernel_rfl) ?_
                refine opIn_at rfl rfl ?_
                simp [go_sem, Oper.wpIn, Oper.about, Oper.uponIn, hkn, hk0]
                exact g
              · refine opIn_at rfl rfl ?_
                simp [go_sem, Oper.wpIn, Oper.about, Oper.uponIn, hkn, hk0]
                refine anyIn_one 0 (by kernel_rfl) ?_
                refine opIn_at rfl rfl ?_
                simp [go_sem, Oper.wpIn, Oper.about, Oper.uponIn, hbt]
                exact g
          · refine opIn_at rfl rfl ?_
            simp [go_sem, Oper.wpIn, Oper.about, Oper.uponIn, hbr]
            refine anyIn_three 0 1 4 (by kernel_rfl) ?_ ?_ ?_
            · refine opIn_at rfl rfl ?_
              simp [go_sem, Oper.wpIn, Oper.about, Oper.uponIn, hbt]
              refine anyIn_two 1 4 (by kernel_rfl) ?_ ?_
              · refine opIn_at rfl rfl ?_
                simp [go_sem, Oper.wpIn, Oper.about, Oper.uponIn, hbu]
                refine anyIn_one 4 (by kernel_rfl) ?_
                refine opIn_at rfl rfl ?_
                simp [go_sem, Oper.wpIn, Oper.about, Oper.uponIn, hkn, hk0]
                exact g
              · refine opIn_at rfl rfl ?_
                simp [go_sem, Oper.wpIn, Oper.about, Oper.uponIn, hkn, hk0]
                refine anyIn_one 1 (by kernel_rfl) ?_
                refine opIn_at rfl rfl ?_
                simp [go_sem, Oper.wpIn, Oper.about, Oper.uponIn, hbu]
                exact g
            · refine opIn_at rfl rfl ?_
              simp [go_sem, Oper.wpIn, Oper.about, Oper.uponIn, hbu]
              refine anyIn_two 0 4 (by kernel_rfl) ?_ ?_
              · refine opIn_at rfl rfl ?_
                simp [go_sem, Oper.wpIn, Oper.about, Oper.uponIn, hbt]
                refine anyIn_one 4 (by kernel_rfl) ?_
                refine opIn_at rfl rfl ?_
                simp [go_sem, Oper.wpIn, Oper.about, Oper.uponIn, hkn, hk0]
                exact g
              · refine opIn_at rfl rfl ?_
                simp [go_sem, Oper.wpIn, Oper.about, Oper.uponIn, hkn, hk0]
                refine anyIn_one 0 (by kernel_rfl) ?_
                refine opIn_at rfl rfl ?_
                simp [go_sem, Oper.wpIn, Oper.about, Oper.uponIn, hbt]
                exact g
            · refine opIn_at rfl rfl ?_
              simp [go_sem, Oper.wpIn, Oper.about, Oper.uponIn, hkn, hk0]
              refine anyIn_two 0 1 (by kernel_rfl) ?_ ?_
              · refine opIn_at rfl rfl ?_
                simp [go_sem, Oper.wpIn, Oper.about, Oper.uponIn, hbt]
                refine anyIn_one 1 (by kernel_rfl) ?_
                refine opIn_at rfl rfl ?_
                simp [go_sem, Oper.wpIn, Oper.about, Oper.uponIn, hbu]
                exact g
              · refine opIn_at rfl rfl ?_
                simp [go_sem, Oper.wpIn, Oper.about, Oper.uponIn, hbu]
                refine anyIn_one 0 (by kernel_rfl) ?_
                refine opIn_at rfl rfl ?_
                simp [go_sem, Oper.wpIn, Oper.about, Oper.uponIn, hbt]
                exact g
      case tail =>
        refine anyIn_one 5 (by kernel_rfl) ?_
        refine opIn_at rfl rfl ?_
        simp [go_sem, Oper.wpIn, Oper.about, Oper.uponIn]
        refine ⟨trivial, ?_⟩
        refine (CallsIn.inRound l (callsIn_wide.2 (descent_any bn n (w.heap.size + 3) n k x M (gotAt pre) _ HNet.out HTab.out hM HGL.out (by omega) HRG.out hlow HCC.out HNE.out))).mono ?_
        rintro e w7 ⟨n7, a7, c7, rfl, ho7, hb7⟩
        have hbW : Below W.heap.size W w7 := (Below.refl _ _).drew.trans hb7
        have hr7 : w7.heap[w.heap.size + 2]? = some (.cells #[.slice none 0 0] 33 (0, 0)) := (hbW.block _ (by omega)).trans HI.out.res
        have hbo : w7.cell? ⟨w.heap.size + 2, 0, none⟩ = some (.slice none 0 0) := by rw [cell_of_row w7 _ 0 _ _ _ hr7]; rfl
        have hfo : w7.frozen? ⟨w.heap.size + 2, 0, none⟩ = false := frozen_of_row w7 _ 0 _ _ hr7
        have HF1 : Hid (KeepsBut (fun k => k < wb.heap.size) W (w7.setCell ⟨w.heap.size + 2, 0, none⟩ (.slice a7 n7 c7))) :=
          (KeepsBut.below hbW).trans (KeepsBut.setCell _ _ _ (by simp; omega))
        have HF2 : Hid (PathD w w.heap.size (pathN M n x v) (w7.setCell ⟨w.heap.size + 2, 0, none⟩ (.slice a7 n7 c7))) := by
          refine ⟨_, heap_setCell_same _ _ 0 _ _ _ hr7, ?_, ?_⟩
          · rw [← HE.out]
            exact (ho7.setBelow (by simp; omega) _).mono (by simp; omega)
          · exact (HI.out.bel.trans (hbW.mono HI.out.bel.size)).setCell (p := ⟨w.heap.size + 2, 0, none⟩) (by simp) _
        clear ho7 hb7 hbW hr7 hbt hbu hbr
        refine anyIn_one 6 (by kernel_rfl) ?_
        refine opIn_at rfl rfl ?_
        simp [go_sem, Oper.wpIn, Oper.about, Oper.uponIn, hbo, hfo]
        refine ⟨by kernel_rfl, ?_⟩
        clear hbo hfo
        gi_wp2
        exact ⟨HF1.out, rfl, HNN.out, HF2.out⟩
    · have hne : ((x : Int) == (u : Int)) = false := by rw [beq_eq_false_iff_ne]; omega
      have hcc := HI.out.row.cell hkn'
      have hcf := HI.out.row.frozen k
      have hg1 := HGL.out k
      have HXU := Lib.hid hxu
      have hx0 : (0 : Int) ≤ (x : Int) := by omega
      have hx16 : (x : Int) < 16 := by omega
      clear hxu
      gi_wp2_with fail
      refine ⟨trivial, ?_⟩
      refine (CallsIn.inRound l (callsIn_wide.2 (add_any _ _ _ _ _ hcc hcf hg1 hx0 hx16))).mono ?_
      rintro e w7 ⟨rfl, hd7⟩
      have HD7 := Lib.hid hd7
      clear hd7
      gi_wp2
      refine ⟨(KeepsBut.setCell (T := fun k => k = w.heap.size + 3) _ _ _ rfl).trans (KeepsBut.below (HD7.out.below _)), ?_⟩
      have hcell : ∀ b i v', W.cell? ⟨b, i, none⟩ = some v' → b ≠ w.heap.size + 3 → w7.cell? ⟨b, i, none⟩ = some v' := fun b i v' hc hb => cell_drawn HD7.out (by rw [World.cell?_setCell_other _ _ _ _ (by intro e; simp at e <;> omega)]; exact hc)
      refine ⟨?_, hcell _ _ _ HI.out.box (by omega), hcell _ _ _ HI.out.net (by omega), hcell _ _ _ HI.out.arg (by omega), ?_, ?_, (HI.out.bel.setCell (p := ⟨w.heap.size + 3, k, none⟩) (by simp) _).trans (HD7.out.below _)⟩
      · refine (rowIs_drawn (HI.out.row.set k _) HD7.out).congr (fun j hj => ?_)
        by_cases e : j = k
        · subst e; simp [gotAt_same]
        · simp only [e, if_false]; rw [gotAt_other _ _ e]
      · have h1 : (W.setCell ⟨w.heap.size + 3, k, none⟩ (.int .u32 ((gotAt pre k ||| 2 ^ (x : Int).toNat : Nat) : Int))).heap[w.heap.size + 2]? = some (.cells #[.slice none 0 0] 33 (0, 0)) := by
          rw [heap_setCell_other _ _ _ _ (by simp)]; exact HI.out.res
        exact ((HD7.out.below _).block _ (Array.getElem?_eq_some_iff.1 h1).1).trans h1
      · intro p hp
        rcases List.mem_append.1 hp with hp | hp
        · exact HI.out.all p hp
        · simp at hp
          subst hp
          exact ⟨HAT.out, HXU.out⟩
  case done =>
    rintro D ys W rfl hI hD hK
    have hres := hI.res
    have hbo : W.cell? ⟨w.heap.size + 2, 0, none⟩ = some (.slice none 0 0) := by rw [cell_of_row W _ 0 _ _ _ hres]; rfl
    have hfo : W.frozen? ⟨w.heap.size + 2, 0, none⟩ = false := frozen_of_row W _ 0 _ _ hres
    have HE : Hid (pathN M n u v = []) := pathN_no (fun k hk => by
      have := atD_lt HS16.out hk
      exact (hI.all (u, k) ((visTo_mem HS16.out).2 ⟨by show k < 17; omega, hk⟩)).2 rfl)
    have HB := Lib.hid hI.bel
    have HK := Lib.hid hK
    have hDW : D < W.heap.size := (Array.getElem?_eq_some_iff.1 hK).1
    have hcs : (W.setCell ⟨w.heap.size + 2, 0, none⟩ (.slice none 0 0)).heap[w.heap.size + 2]? = some (.cells #[.slice none 0 0] 33 (0, 0)) := heap_setCell_same _ _ 0 _ _ _ hres
    have hcp : ((W.setCell ⟨w.heap.size + 2, 0, none⟩ (.slice none 0 0)).putObj D (.deferred none)).cell? ⟨w.heap.size + 2, 0, none⟩ = some (.slice none 0 0) := by
      rw [cell_of_row _ _ 0 _ _ _ ((World.putObj_heap_other (by omega)).trans hcs)]; rfl
    have hKs : (W.setCell ⟨w.heap.size + 2, 0, none⟩ (.slice none 0 0)).heap[D]? = some (.deferred (some [])) := by rw [heap_setCell_other _ _ _ _ (by simp; omega)]; exact hK
    have HKS := Lib.hid hKs
    have HCP := Lib.hid hcp
    have HFB : Hid (Below w.heap.size w ((W.setCell ⟨w.heap.size + 2, 0, none⟩ (.slice none 0 0)).putObj D (.deferred none))) := (hI.bel.setCell (p := ⟨w.heap.size + 2, 0, none⟩) (by simp) _).trans (below_put _ D _ (by omega) (by simpa using hDW))
    clear hI hres hK hcs hcp hKs
    go_wp2
    refine ⟨by simp, .inl ⟨_, _, rfl, run_takeDeferred HKS.out, ?_⟩⟩
    refine ⟨.slice none 0 0, by simp [results, Tryz.results189, go_sem, HCP.out], ?_⟩
    exact ⟨⟨0, none, 0, rfl, by rw [HE.out]; exact ⟨by simp, Nat.zero_le _, .inl ⟨rfl, rfl⟩⟩, HFB.out⟩, fun _ => rfl⟩
  case stop =>
    rintro D c pre W _ ⟨rfl, hnn, val, h3, h4, h5⟩ hD hK
    have HNN := Lib.hid hnn
    clear hnn
    obtain ⟨a3, c3, e3⟩ := h4.row.slice
    subst e3
    have hDW : D < W.heap.size := (Array.getElem?_eq_some_iff.1 hK).1
    have hcp : (W.putObj D (.deferred none)).cell? ⟨w.heap.size + 2, 0, none⟩ = some (.slice a3 (pathN M n u v).length c3) := by
      rw [cell_of_row _ _ 0 _ _ _ ((World.putObj_heap_other (by omega)).trans h3)]; rfl
    have HF : Hid (GaveRow w (pathN M n u v) (.returned (.slice a3 (pathN M n u v).length c3)) (W.putObj D (.deferred none))) := by
      refine ⟨_, _, _, rfl, h4.kept (fun k cs fr hk => ?_), h5.trans (below_put W D _ (by omega) hDW)⟩
      rw [World.putObj_heap_other (fun e => ?_)]
      · exact hk
      · subst e; rw [hK] at hk; cases hk
    have HK := Lib.hid hK
    have HCP := Lib.hid hcp
    clear h3 h4 h5 hcp hK
    refine (wpIn_wide (n := 9)).2 ?_
    go_wp2
    refine ⟨by simp, .inl ⟨_, _, rfl, run_takeDeferred HK.out, ?_⟩⟩
    refine ⟨.slice a3 (pathN M n u v).length c3, by simp [results, Tryz.results189, go_sem, HCP.out], HF.out, fun e => absurd e HNN.out⟩

end Go.Proofs.YtohjfcfcopbmoaaGreatDoor
