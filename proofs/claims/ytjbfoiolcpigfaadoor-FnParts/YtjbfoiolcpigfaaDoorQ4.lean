/- The texts Z2, Z3, H0, FP1, J1, J2, joined. -/
import Derived.Test.YtjbfoiolcpigfaaDoorQ3
import Derived.Test.YtjbfoiolcpigfaaDoorD1
import Derived.Deep.RegionHeld3
import Derived.Test.YtjbfoiolcpigfaaDoorQ2
import Derived.RangeFuncFrom
import Derived.Test.YtjbfoiolcpigfaaDoorE2
import Derived.Test.YtjbfoiolcpigfaaDoorF7
import Derived.Test.YtjbfoiolcpigfaaDoorF4
import Derived.Test.YtjbfoiolcpigfaaDoorG1

/- Walks: PartsOf, of the model. -/
namespace Go.Proofs.YtjbfoiolcpigfaaDoor
open Go.RowKit

theorem ints_one' (xs : List Int) : ∀ u ∈ xs.map (Value.int .i64), u.oneCell' = true := by
  intro u hu
  rw [List.mem_map] at hu
  obtain ⟨x, _, rfl⟩ := hu
  rfl

/-- A grid of one's own, and a row of one's own beside it. -/
structure GridD (w : World) (B : Nat) (o d : Value) (L : List (List Int)) (ds : List Int) (R : Nat → Value) : Prop where
  len : L.length ≤ 16
  outer : w.ownsRow B 36 1 o L.length ((List.range L.length).map R)
  rows : ∀ i, i < L.length → OwnRow 2 w B (R i) (nthR L i)
  apart : ∀ i j k, i < j → j < L.length → (R i).ownBlock = some k → (R j).ownBlock ≠ some k
  row : OwnRow 2 w B d ds
  off : ∀ i k, i < L.length → (R i).ownBlock = some k → d.ownBlock ≠ some k
theorem GridD.grid {w : World} {B : Nat} {o d : Value} {L : List (List Int)} {ds : List Int} {R : Nat → Value} (h : GridD w B o d L ds R) : OwnGrid 2 36 w B o L :=
  OwnGrid.of_owns (by have := h.len; unfold maxLen; omega) h.outer h.rows h.apart
theorem ownsRow_keep {w w' : World} {B : Nat} {T : TypeId} {v : Value} {n : Nat} {xs : List Value} (h : w.ownsRow B T 1 v n xs) (hb : Below w.heap.size w w') : w'.ownsRow B T 1 v n xs := by
  refine ⟨h.1, ?_⟩
  rcases h.2 with h1 | ⟨g, cap, cur, e, hgB, hh, r⟩
  · exact Or.inl h1
  · obtain ⟨hlt, _⟩ := Array.getElem?_eq_some_iff.1 hh
    exact Or.inr ⟨g, cap, cur, e, hgB, by rw [hb.block g hlt]; exact hh, r⟩
theorem GridD.keep {w w' : World} {B : Nat} {o d : Value} {L : List (List Int)} {ds : List Int} {R : Nat → Value} (h : GridD w B o d L ds R) (hb : Below w.heap.size w w') : GridD w' B o d L ds R :=
  ⟨h.len, ownsRow_keep h.outer hb, fun i hi => (h.rows i hi).keep hb, h.apart, h.row.keep hb, h.off⟩
/-- A row laid since is appended to the grid. -/
theorem GridD.snoc {w0 w w1 : World} {B : Nat} {o d o' rv : Value} {L : List (List Int)} {ds xs : List Int} {R : Nat → Value} (h : GridD w0 B o d L ds R) (hb : Below w0.heap.size w0 w) (hB : B ≤ w0.heap.size) (hr : OwnRow 2 w w0.heap.size rv xs) (hl : L.length + 1 ≤ 16)
    (hown : w1.ownsRow B 36 1 o' (L.length + 1) ((List.range L.length).map R ++ [rv])) (hg : w.grownBy w1 o.ownBlock) : GridD w1 B o' d (L ++ [xs]) ds (fun i => if i < L.length then R i else rv) := by
  have hT : 2 ≠ 36 := by decide
  have hown0 := ownsRow_keep h.outer hb
  have eL : (L ++ [xs]).length = L.length + 1 := by simp
  have eR : (List.range (L ++ [xs]).length).map (fun i => if i < L.length then R i else rv) = (List.range L.length).map R ++ [rv] := by
    rw [eL, List.range_succ, List.map_append]
    congr 1
    · apply List.map_congr_left
      intro i hi
      rw [if_pos (by simpa using hi)]
    · simp
  refine ⟨by rw [eL]; exact hl, by rw [eR, eL]; exact hown, ?_, ?_, (h.row.keep hb).grown hown0 hT hg, ?_⟩
  · intro i hi
    rw [eL] at hi
    by_cases h1 : i < L.length
    · simp only [h1, if_true]
      rw [nthR_append_old h1]
      exact ((h.rows i h1).keep hb).grown hown0 hT hg
    · obtain rfl : i = L.length := by omega
      simp only [Nat.lt_irrefl, if_false]
      rw [nthR_append_last]
      exact (hr.mono hB).grown hown0 hT hg
  · intro i j k hij hj hk
    rw [eL] at hj
    have hi : i < L.length := by omega
    simp only [hi, if_true] at hk
    by_cases h1 : j < L.length
    · simp only [h1, if_true]
      exact h.apart i j k hij h1 hk
    · simp only [h1, if_false]
      intro e
      have := (h.rows i hi).lt k hk
      have := hr.lt k e
      omega
  · intro i k hi hk hd
    rw [eL] at hi
    by_cases h1 : i < L.length
    · simp only [h1, if_true] at hk
      exact h.off i k h1 hk hd
    · simp only [h1, if_false] at hk
      have := (h.row.lt k hd).2
      have := (hr.lt k hk).1
      omega
/-- Numbers are appended to the row. -/
theorem GridD.more {w w1 : World} {B g cap : Nat} {o d : Value} {L : List (List Int)} {ds ns : List Int} {R : Nat → Value} (h : GridD w B o d L ds R) (hm : ds.length + ns.length ≤ maxLen) (hi : ∀ x ∈ ns, I64 x)
    (hown : w1.ownsRow B 2 1 (.slice (some ⟨g, 0, none⟩) (ds.length + ns.length) cap) (ds.length + ns.length) (ds.map (Value.int .i64) ++ ns.map (Value.int .i64))) (hg : w.grownBy w1 d.ownBlock) (hat : d.ownBlock = some g ∨ g = w.heap.size) : GridD w1 B o (.slice (some ⟨g, 0, none⟩) (ds.length + ns.length) cap) L (ds ++ ns) R := by
  have hoth : ∀ k cs T fr, w.heap[k]? = some (.cells cs T fr) → some k ≠ d.ownBlock → w1.heap[k]? = some (.cells cs T fr) := fun k cs T fr hk hne => (hg.block k (Array.getElem?_eq_some_iff.1 hk).1 hne).trans hk
  refine ⟨h.len, ?_, fun i hi => (h.rows i hi).far' hg (fun k hk e => h.off i k hi hk e.symm), h.apart, OwnRow.of_ownsRow (n := ds.length + ns.length) (by rw [List.map_append]; exact hown) (by simpa using hm) (fun x hx => ?_), ?_⟩
  · refine ⟨h.outer.1, ?_⟩
    rcases h.outer.2 with h1 | ⟨g', cap', cur', e, hgB, hh, r⟩
    · exact Or.inl h1
    · refine Or.inr ⟨g', cap', cur', e, hgB, hoth _ _ _ _ hh (fun e2 => ?_), r⟩
      rcases h.row.2.2 with ⟨e3, _⟩ | ⟨g3, cap3, cur3, e3, _, hh3, _⟩
      · rw [e3] at e2; simp [Value.ownBlock] at e2
      · rw [e3] at e2
        simp [Value.ownBlock] at e2
        subst e2
        rw [hh] at hh3
        simp at hh3
  · rcases List.mem_append.1 hx with hx | hx
    · exact h.row.1 x hx
    · exact hi x hx
  · intro i k hil hk hd
    simp only [Value.ownBlock, Option.some.injEq] at hd
    subst hd
    rcases hat with hat | hat
    · exact h.off i g hil hk hat
    · have := ((h.rows i hil).lt g hk).2
      omega

/-- What PartsOf answers. -/
noncomputable def partsL (L : List (List Int)) : List (List Int) := if GraphP L then (partsM (nearB L) L.length L.length).map listM else []
theorem partsL_small (L : List (List Int)) : Small (partsL L) := by
  unfold partsL
  split
  · rename_i hG
    have hz := hG.1
    have hl := partsM_len (nearB L) L.length L.length
    refine ⟨by rw [List.length_map]; omega, fun i hi => ?_⟩
    rw [List.length_map] at hi
    have : nthR ((partsM (nearB L) L.length L.length).map listM) i = listM ((partsM (nearB L) L.length L.length)[i]) := by simp [nthR, hi]
    rw [this]
    have := listM_len ((partsM (nearB L) L.length L.length)[i])
    omega
  · exact ⟨by simp, fun i hi => absurd hi (by simp)⟩

set_option maxHeartbeats 4000000 in
set_option maxRecDepth 100000 in
theorem l3Parts_any (v v1 : Value) (L : List (List Int)) (w : World) (h : GridAt w v L) (hG : GraphP L) (h1 : RowAt w v1 (allL L.length)) :
    Calls Tryd.prog 80 #[.agg #[v], v1] w (GaveGrid w ((partsM (nearB L) L.length L.length).map listM)) := by
  obtain ⟨i0, hi, hz0, hz1, hz2⟩ := info_parts Tryd.infoI
  obtain ⟨j0, hj, hy0, hy1, hy2⟩ := info_parts Tryd.infoR
  have hz := hG.1
  have hA := nearB_symm hG
  obtain ⟨a0, c0, rfl⟩ := h.slice
  obtain ⟨W1, hW1⟩ : ∃ W1, W1 = w.alloc (.cells #[.slice a0 L.length c0] 29) := ⟨_, rfl⟩
  have hs1 : W1.heap.size = w.heap.size + 1 := by rw [hW1]; simp
  have ha : Below w.heap.size w W1 := by rw [hW1]; exact (Below.refl _ _).alloc (Nat.le_refl _) _
  have kb : W1.cell? ⟨w.heap.size, 0, none⟩ = some (.slice a0 L.length c0) := by rw [hW1]; go_simp
  have HGr := Lib.hid (h.keep ha)
  have HX := Lib.hid (h1.keep ha)
  obtain ⟨b, o, c, e1, l1, l2, hc⟩ := (h1.keep ha).pos (by rw [allL_len]; omega)
  have HC : Hid (∀ i, i < L.length → W1.cell? ⟨b, o + i, none⟩ = some (.int .i64 (i : Int))) := fun i hi => by
    have := hc i (by rw [allL_len]; exact hi)
    rw [show nth (allL L.length) i = (i : Int) from by rw [nth_eq (by rw [allL_len]; exact hi)]; simp [allL]] at this
    exact this
  rw [allL_len] at e1 l1
  subst e1
  have KB := Lib.hid kb
  have HA := Lib.hid ha
  have HS1 := Lib.hid hs1
  have HW1 := Lib.hid hW1
  have HG := Lib.hid hG
  have HAS := Lib.hid hA
  have HRNG := Lib.hid (allL_rng L.length)
  clear hc ha hs1 kb hW1 h h1 hG hA
  go_enter Tryd.func80, Tryd.ntmps80
  go_wp2
  rw [← HW1.out]
  have HST : Hid (GridD ((W1.alloc (.cells #[] 36)).alloc (.cells #[] 2)) W1.heap.size (.slice (some ⟨W1.heap.size, 0, none⟩) 0 0) (.slice (some ⟨W1.heap.size + 1, 0, none⟩) 0 0) [] [] (fun _ => undef)) := by
    have h1 : (W1.alloc (.cells #[] 36)).ownsRow W1.heap.size 36 1 (.slice (some ⟨W1.heap.size, 0, none⟩) 0 0) 0 [] := World.ownsRow_lit W1 #[] 0 (Nat.le_refl _) (Nat.zero_le _) rfl
    have h2 : ((W1.alloc (.cells #[] 36)).alloc (.cells #[] 2)).ownsRow W1.heap.size 2 1 (.slice (some ⟨(W1.alloc (.cells #[] 36)).heap.size, 0, none⟩) 0 0) 0 [] := World.ownsRow_lit _ #[] 0 (by simp) (Nat.zero_le _) rfl
    rw [size_alloc1] at h2
    exact ⟨by simp, ownsRow_keep h1 ((Below.refl _ _).alloc (Nat.le_refl _) _), fun i hi => absurd hi (by simp), fun i j k _ hj => absurd hj (by simp), OwnRow.of_ownsRow (n := 0) (xs := []) h2 (Nat.zero_le _) (fun x hx => absurd hx (by simp)), fun i k hi => absurd hi (by simp)⟩
  rw [HS1.out] at HST
  go_loopw [5, 6, 7] (fun ov dv iv wr => ∃ (k : Nat) (ds : List Int) (R : Nat → Value), k ≤ L.length ∧ iv = .int .i64 k ∧ GridD wr (w.heap.size + 1) ov dv ((partsM (nearB L) L.length k).map listM) ds R ∧ (∀ u : Nat, (u : Int) ∈ ds ↔ u < L.length ∧ headN (nearB L) L.length u < k) ∧ ds.length ≤ 16 * k ∧ Below W1.heap.size W1 wr) (fun _ _ iv _ => L.length - (intOf iv).toNat)
  case atStart =>
    exact ⟨0, [], _, Nat.zero_le _, rfl, HST.out, fun u => by simp, by simp, ((Below.refl _ _).alloc (Nat.le_refl _) _).alloc (by simp) _⟩
  case round =>
    obtain ⟨k, ds, R, hk, rfl, hgd, hds, hdl, hb⟩ := hrel
    have hpl := partsM_len (nearB L) L.length k
    obtain ⟨ad, cd, ed⟩ := hgd.row.row.slice
    subst ed
    have HGD := Lib.hid hgd
    have HDS := Lib.hid hds
    have HB := Lib.hid hb
    have hz3 : w.heap.size + 1 ≤ wr.heap.size := by have := hb.size; rw [HS1.out] at this; exact this
    have HPS := Lib.hid (partsM_succ (nearB L) L.length k)
    by_cases hlt : k < L.length
    · have hck := cell_keep hb (HC.out k hlt)
      have hkb := cell_keep hb KB.out
      have hhd := headN_spec HAS.out hz.2 hlt
      have HX3 := Lib.hid (HX.out.keep hb)
      have HG3 := Lib.hid (HGr.out.keep hb)
      have hmem : hasB ds (k : Int) = decide (headN (nearB L) L.length k < k) := by
        rw [Bool.eq_iff_iff, hasB_mem, hds k, decide_eq_true_iff]
        exact ⟨fun h => h.2, fun h => ⟨hlt, h⟩⟩
      have HMEM := Lib.hid hmem
      clear hb hgd hds hmem
      by_cases hhk : headN (nearB L) L.length k < k
      · have HH : Hid (hasB ds (k : Int) = true) := by show _ = _; rw [HMEM.out, decide_eq_true hhk]
        have HPE : Hid (partsM (nearB L) L.length (k + 1) = partsM (nearB L) L.length k) := by show _ = _; rw [HPS.out, if_neg (by simp; omega), List.append_nil]
        have HD2 : Hid (∀ u : Nat, (u : Int) ∈ ds ↔ u < L.length ∧ headN (nearB L) L.length u < k + 1) := fun u => by
          rw [HDS.out u]
          constructor
          · rintro ⟨h1, h2⟩; exact ⟨h1, by omega⟩
          · rintro ⟨h1, h2⟩
            refine ⟨h1, ?_⟩
            rcases Nat.lt_or_ge (headN (nearB L) L.length u) k with h3 | h3
            · exact h3
            · exfalso
              have e : headN (nearB L) L.length u = k := by omega
              have := (headN_spec HAS.out hz.2 h1).2.2.1
              rw [e] at this
              omega
        go_wp2_with (go_at_call 100; refine (l1Has_any _ _ _ _ HGD.out.row.row).mono ?_; rintro e w' ⟨rfl, rfl⟩; rw [HH.out])
        go_roundw
        case rel => exact ⟨k + 1, ds, R, by omega, by go_num, by rw [HPE.out]; exact HGD.out, HD2.out, by omega, HB.out⟩
        case measure => simp [intOf]; omega
      · have hhe : headN (nearB L) L.length k = k := by omega
        have HH : Hid (hasB ds (k : Int) = false) := by show _ = _; rw [HMEM.out, decide_eq_false hhk]
        have HPE : Hid ((partsM (nearB L) L.length (k + 1)).map listM = (partsM (nearB L) L.length k).map listM ++ [listM (compN (nearB L) L.length k)]) := by show _ = _; rw [HPS.out, if_pos (by simpa using hhe), List.map_append]; rfl
        have HPT : Hid (partTo (nearB L) (inS (allL L.length)) k L.length = listM (compN (nearB L) L.length k)) := partTo_list hz.2 (fun u hu => (allS_iff _ _).1 hu)
        have hcl := listM_len (compN (nearB L) L.length k)
        have hcp : 0 < (listM (compN (nearB L) L.length k)).length := List.length_pos_of_mem ((listM_mem _ _).2 ⟨k, by omega, compN_self hz.2 hlt, rfl⟩)
        have HI6 := Lib.hid (listM_i64 (compN (nearB L) L.length k))
        have HD2 : Hid (∀ u : Nat, (u : Int) ∈ ds ++ listM (compN (nearB L) L.length k) ↔ u < L.length ∧ headN (nearB L) L.length u < k + 1) := fun u => by
          rw [List.mem_append, HDS.out u, listM_mem]
          constructor
          · rintro (⟨h1, h2⟩ | ⟨i, h1, h2, h3⟩)
            · exact ⟨h1, by omega⟩
            · have : i = u := by omega
              subst this
              have h4 := (compN_bit hz.2 k i).1 h2
              exact ⟨(allS_iff _ _).1 h4.mem, by rw [headN_eq HAS.out hz.2 h4, hhe]; omega⟩
          · rintro ⟨h1, h2⟩
            rcases Nat.lt_or_ge (headN (nearB L) L.length u) k with h3 | h3
            · exact .inl ⟨h1, h3⟩
            · have e : headN (nearB L) L.length u = k := by omega
              have h4 := (headN_spec HAS.out hz.2 h1).2.1
              rw [e] at h4
              exact .inr ⟨u, by omega, (compN_bit hz.2 k u).2 (h4.symm HAS.out), rfl⟩
        go_wp2_with (go_at_call 100; refine (l1Has_any _ _ _ _ HGD.out.row.row).mono ?_; rintro e w' ⟨rfl, rfl⟩; rw [HH.out])
        go_region_held3 (fun wx => wx.cell? ⟨w.heap.size, 0, none⟩ = some (.slice a0 L.length c0) ∧ wx.cell? ⟨b, o + k, none⟩ = some (.int .i64 (k : Int))) (first | exact ⟨hkb, hck⟩ | exact ⟨kba, hca⟩)
          (first
            | (go_at_call 124; refine (l3Part_any _ _ L k (allL L.length) _ (HG3.out.keep (Below.refl _ _).drew) HG.out hlt (HX3.out.keep (Below.refl _ _).drew) HRNG.out).mono ?_; rintro e wa ⟨na, aa, ca, rfl, hoa, hba⟩; have kba := cell_keep hba (cell_keep (Below.refl _ _).drew hkb); have hca := cell_keep hba (cell_keep (Below.refl _ _).drew hck); rw [HPT.out] at hoa; have HOA := Lib.hid hoa; have HBA : Hid (Below wr.heap.size wr wa) := (Below.refl _ _).drew.trans hba; clear hoa hba))
        obtain ⟨ga, cpa, ea, hgaB, hgal, hca1, hca2⟩ := HOA.out.posB hcp
        simp only [Value.slice.injEq] at ea
        obtain ⟨rfl, rfl, rfl⟩ := ea
        have HGA := Lib.hid (HGD.out.keep HBA.out)
        have hza : wr.heap.size ≤ wa.heap.size := HBA.out.size
        have HLM : Hid (((partsM (nearB L) L.length k).map listM).length = (partsM (nearB L) L.length k).length) := by show _ = _; rw [List.length_map]
        clear kba hca hkb hck
        go_wp2_with (at_builtin; refine wpList_append_lies _ rfl (.tmp 31) (.tmp 33) 27 rfl (w.heap.size + 1) 36 j0 (.slice none 0 0) 1 24 Tryd.underlying27 hj hy0 hy1 hy2 rfl (by decide) _ _ _ rfl (HGA.out.outer.alloc _) ⟨wa.heap.size, 0, none⟩ 1 1 [.slice (some ⟨ga, 0, none⟩) (listM (compN (nearB L) L.length k)).length ca] rfl rfl ?c1 ?c2 (by decide) ?c3 ?c4 ?c5 (wa.heap.size + 1) ?c6 ?_)
        case c1 =>
          intro j u hj
          match j, hj with
          | 0, hj => simp at hj; subst hj; simp [Addr.add]
        case c2 => intro u hu; simp at hu; subst hu; rfl
        case c3 => rw [HLM.out]; unfold maxLen; omega
        case c4 => rw [HLM.out]; omega
        case c5 => simp; omega
        case c6 => simp
        intro g4 cap4 w4 hown4 hgrow4 hat4 hlt4
        have hbl : Below wa.heap.size wa (wa.alloc (.cells #[.slice (some ⟨ga, 0, none⟩) (listM (compN (nearB L) L.length k)).length ca] 36)) := (Below.refl _ _).alloc (Nat.le_refl _) _
        have HG4 : Hid (GridD w4 (w.heap.size + 1) (.slice (some ⟨g4, 0, none⟩) ((partsM (nearB L) L.length k).length + 1) cap4) (.slice ad ds.length cd) ((partsM (nearB L) L.length k).map listM ++ [listM (compN (nearB L) L.length k)]) ds (fun i => if i < (partsM (nearB L) L.length k).length then R i else .slice (some ⟨ga, 0, none⟩) (listM (compN (nearB L) L.length k)).length ca)) := by
          have h := HGD.out.snoc (HBA.out.trans (hbl.mono hza)) hz3 (HOA.out.keep hbl) (by rw [HLM.out]; omega) (by rw [HLM.out]; exact hown4) hgrow4
          rw [HLM.out] at h
          exact h
        have hb4 : Below (w.heap.size + 1) wa w4 := (hbl.mono (by omega)).grown hgrow4 (by simp; omega) (fun j hj => (HGA.out.outer.lt j hj).1)
        have HB4 : Hid (Below W1.heap.size W1 w4) := (HB.out.trans (HBA.out.mono HB.out.size)).trans (by rw [HS1.out]; exact hb4)
        have HO4 : Hid (OwnRow 2 w4 wr.heap.size (.slice (some ⟨ga, 0, none⟩) (listM (compN (nearB L) L.length k)).length ca) (listM (compN (nearB L) L.length k))) := (HOA.out.keep hbl).grown (HGA.out.outer.alloc _) (by decide) hgrow4
        have hz4 : w.heap.size + 1 ≤ w4.heap.size := by have := hb4.size; omega
        clear hown4 hgrow4 hat4 hb4 hbl HGA HGD HOA
        go_wp2_with (at_builtin; refine wpList_append_lies _ rfl (.tmp 35) (.tmp 36) 36 rfl (w.heap.size + 1) 2 i0 (.int .i64 0) 1 8 Tryd.underlying36 hi hz0 hz1 hz2 rfl (by decide) _ _ _ rfl HG4.out.row.owns ⟨ga, 0, none⟩ (listM (compN (nearB L) L.length k)).length ca ((listM (compN (nearB L) L.length k)).map (Value.int .i64)) rfl ?c7 ?c8 ?c9 hcp ?c10 ?c11 hz4 w4.heap.size rfl ?_)
        case c7 => simp
        case c8 =>
          intro j u hj
          rw [List.getElem?_map] at hj
          obtain ⟨x, hx, rfl⟩ := Option.map_eq_some_iff.1 hj
          obtain ⟨hjl, e⟩ := List.getElem?_eq_some_iff.1 hx
          have := HO4.out.cells' j hjl
          rw [nth_eq hjl, e] at this
          unfold Addr.add
          split
          · rename_i e0; subst e0; exact this
          · simpa using this
        case c9 => exact ints_one' _
        case c10 => unfold maxLen; omega
        case c11 => omega
        intro g6 cap6 w6 hown6 hgrow6 hat6 hlt6
        have HG6 := Lib.hid (HG4.out.more (by unfold maxLen; omega) HI6.out hown6 hgrow6 hat6)
        have hb6 : Below (w.heap.size + 1) w4 w6 := (Below.refl _ _).grown hgrow6 hz4 (fun j hj => (HG4.out.row.lt j hj).1)
        have HB6 : Hid (Below W1.heap.size W1 w6) := HB4.out.trans (by rw [HS1.out]; exact hb6)
        clear hown6 hgrow6 hat6 hb6 HG4 HO4
        go_wp2
        go_roundw
        case rel =>
          refine ⟨k + 1, ds ++ listM (compN (nearB L) L.length k), _, by omega, by go_num, by rw [HPE.out]; exact HG6.out, HD2.out, by simp; omega, HB6.out⟩
        case measure => simp [intOf]; omega
    · obtain rfl : k = L.length := by omega
      have hog := hgd.grid
      obtain ⟨a3, c3, e3⟩ := hog.grid.slice
      have HF : Hid (GaveGrid w ((partsM (nearB L) L.length L.length).map listM) (.returned (.slice a3 ((partsM (nearB L) L.length L.length).map listM).length c3)) wr) := ⟨_, _, _, rfl, by rw [← e3]; exact hog.mono (by omega), HA.out.trans (HB.out.mono (by rw [HS1.out]; omega))⟩
      subst e3
      clear hgd hds hb hog HGD HDS
      go_wp2
      go_ret
      exact HF.out

theorem gaveNoGrid {w w' : World} (h : Below w.heap.size w w') : GaveGrid w [] (.returned (.slice (some ⟨w'.heap.size, 0, none⟩) 0 0)) (w'.alloc (.cells #[] 36)) :=
  ⟨0, _, 0, rfl, own_none w' w.heap.size h.size, h.alloc h.size _⟩

set_option maxHeartbeats 2000000 in
theorem specPartsOf_any (v : Value) (L : List (List Int)) (w : World) (h : GridAt w v L) : Calls Tryd.prog 27 #[.agg #[v]] w (GaveGrid w (partsL L)) := by
  obtain ⟨a0, c0, rfl⟩ := h.slice
  have ha : Below w.heap.size w (w.alloc (.cells #[.slice a0 L.length c0] 29)) := (Below.refl _ _).alloc (Nat.le_refl _) _
  have hk := h.keep ha
  have HA := Lib.hid ha
  have HGK : Hid (∀ w', Below w.heap.size w w' → GridAt w' (.slice a0 L.length c0) L) := fun w' hb => h.keep hb
  clear ha h
  go_enter Tryd.func27, Tryd.ntmps27
  go_wp2_with fail
  refine (specGraphOk_any _ _ _ hk).mono ?_
  rintro e w1 ⟨rfl, hb1⟩
  have kb2 : w1.cell? ⟨w.heap.size, 0, none⟩ = some (.slice a0 L.length c0) := by rw [hb1.cell (by simp)]; go_simp
  have HB2 : Hid (Below w.heap.size w w1) := HA.out.trans (hb1.mono (by simp))
  clear hb1 hk HA
  by_cases hG : GraphP L
  · have hz := hG.1
    have HG := Lib.hid hG
    have HE : Hid (partsL L = (partsM (nearB L) L.length L.length).map listM) := by show _ = _; unfold partsL; rw [if_pos hG]
    rw [decide_eq_true hG]
    clear hG
    go_wp2_with fail
    go_region_held3 (fun wx => wx.cell? ⟨w.heap.size, 0, none⟩ = some (.slice a0 L.length c0)) (first | exact kb2 | exact kba | exact kbb | exact kbc)
      (first
        | (go_at_call 72; refine (l1Size_any _ L _ (HGK.out _ HB2.out.drew)).mono ?_; rintro e wa ⟨rfl, hba⟩; have kba := cell_keep hba (cell_keep (Below.refl _ _).drew kb2); have HBA : Hid (Below w.heap.size w wa) := HB2.out.drew.trans (hba.mono HB2.out.size); clear hba)
        | (go_at_call 81; refine (l1All_any L.length _ hz.2).mono ?_; rintro e wb ⟨nb, ab, cb, rfl, hob, hbb⟩; have kbb := cell_keep hbb kba; have HBB : Hid (Below w.heap.size w wb) := HBA.out.trans (hbb.mono HBA.out.size); have HOB := Lib.hid hob; clear hob hbb)
        | (go_at_call 80; refine (l3Parts_any _ _ L _ (HGK.out _ HBB.out) HG.out HOB.out.row).mono ?_; rintro e wc ⟨nc, ac, cc, rfl, hoc, hbc⟩; have kbc := cell_keep hbc kbb; have HP : Hid (GaveGrid w (partsL L) (.returned (.slice ac nc cc)) wc) := (by rw [HE.out]; exact ⟨_, _, _, rfl, hoc.mono HBB.out.size, HBB.out.trans (hbc.mono HBB.out.size)⟩); clear hoc hbc))
    go_wp2
    go_ret
    exact HP.out
  · have HE : Hid (partsL L = []) := by show _ = _; unfold partsL; rw [if_neg hG]
    rw [decide_eq_false hG]
    clear hG
    go_wp2
    go_ret
    rw [HE.out]
    exact gaveNoGrid HB2.out

end Go.Proofs.YtjbfoiolcpigfaaDoor

/- Walks: the iterator over the parts. -/
namespace Go.Proofs.YtjbfoiolcpigfaaDoor
open Go.RowKit Go.Shelf
attribute [local go_sem] Oper.semAt_some

theorem parts_any (bn : Nat) (w : World) :
    Calls Tryd.prog 78 #[.pointer (some ⟨bn, 0, none⟩)] w fun e w' =>
      e = .returned (.func (.func 123) #[] #[.pointer (some ⟨w.heap.size, 0, none⟩)]) ∧
      w' = w.alloc (.cells #[.pointer (some ⟨bn, 0, none⟩)] 113) := by
  have hmf : ∀ (fn : Fn) (first cap : Array Value) (w : World), (Instr.makeFunc fn first cap).run Tryd.prog w = .ok (.func fn first cap) w := fun _ _ _ _ => rfl
  go_enter Tryd.func78, Tryd.ntmps78
  go_wp2
  go_ret
  exact ⟨rfl, rfl⟩

/-- The vertices below k that begin a part. -/
noncomputable def headsTo (A : Nat → Nat → Bool) (n k : Nat) : List Nat := (List.range k).filter (fun v => headN A n v == v)
theorem headsTo_map (A : Nat → Nat → Bool) (n k : Nat) : (headsTo A n k).map (compN A n) = partsM A n k := rfl
theorem headsTo_len (A : Nat → Nat → Bool) (n k : Nat) : (headsTo A n k).length ≤ k := by
  have := List.length_filter_le (fun v => headN A n v == v) (List.range k)
  rwa [List.length_range] at this
theorem headsTo_succ {A : Nat → Nat → Bool} {n k : Nat} (h : headN A n k = k) : headsTo A n (k + 1) = headsTo A n k ++ [k] := by
  unfold headsTo
  rw [List.range_succ, List.filter_append]
  simp [h]
theorem headsTo_same {A : Nat → Nat → Bool} {n i j : Nat} (hij : i ≤ j) (h : ∀ v, i ≤ v → v < j → headN A n v ≠ v) : headsTo A n j = headsTo A n i := by
  induction j with
  | zero => obtain rfl : i = 0 := by omega
            rfl
  | succ j ih =>
    by_cases e : i = j + 1
    · subst e; rfl
    · have : headsTo A n (j + 1) = headsTo A n j := by
        unfold headsTo
        rw [List.range_succ, List.filter_append]
        simp [h j (by omega) (by omega)]
      rw [this]
      exact ih (by omega) (fun v h1 h2 => h v h1 (by omega))

/-- A part, as yield takes it. -/
noncomputable def encM (A : Nat → Nat → Bool) (n v : Nat) : Array Value := #[.int .u32 (compN A n v : Int)]

/-- What the iterator reads. -/
structure PartIn (w : World) (pt bn n : Nat) (M : Nat → Nat) : Prop where
  t : w.cell? ⟨pt, 0, none⟩ = some (.pointer (some ⟨bn, 0, none⟩))
  net : NetAt w bn n M
  tab : TabAt w
theorem PartIn.keep {w w' : World} {pt bn n : Nat} {M : Nat → Nat} (h : PartIn w pt bn n M) (hb : Below w.heap.size w w') : PartIn w' pt bn n M := ⟨cell_keep hb h.t, h.net.keep hb, h.tab.keep hb⟩
theorem PartIn.but {w w' : World} {pt bn n : Nat} {M : Nat → Nat} (h : PartIn w pt bn n M) (hb : KeepsBut (fun k => k ≠ pt ∧ k ≠ bn ∧ k ≠ 0) w w') : PartIn w' pt bn n M :=
  ⟨hb.cell (fun h => h.1 rfl) h.t, ⟨hb.cell (fun h => h.2.1 rfl) h.net.1, fun i hi => hb.cell (fun h => h.2.1 rfl) (h.net.2 i hi)⟩, fun i hi => hb.cell (fun h => h.2.2 rfl) (h.tab i hi)⟩

theorem grown_of_below {A B : World} (h : Below A.heap.size A B) : A.grownBy B none := ⟨h.os, h.tape, h.output, h.size, fun k hk _ => h.block k hk⟩

set_option maxHeartbeats 4000000 in
set_option maxRecDepth 100000 in
theorem parts1_seq (m pt bn n : Nat) (M : Nat → Nat) (w : World) (hM : ∀ i, M i < 65536) (hn : n ≤ 16) (hA : ∀ a b, nearM M a b = nearM M b a) (hin : PartIn w pt bn n M) :
    SeqStopsK Fence.wide m Tryd.prog 123 #[.pointer (some ⟨pt, 0, none⟩)] (encM (nearM M) n) (KeepsBut (fun k => k ≠ pt ∧ k ≠ bn ∧ k ≠ 0)) (fun xs => xs = headsTo (nearM M) n n) (fun _ => True) 17 w := by
  intro l J Jx W hW hJ hJx hY h0
  have hin1 := hin.keep hW
  have kt := hin1.t
  have kn := hin1.net.1
  have HIN := Lib.hid hin1
  have HJ : Hid (∀ s A B, J s A → Below A.heap.size A B → J s B) := fun s A B hs hb => hJ s A B none hs (grown_of_below hb) (fun r e => by cases e)
  have HY := Lib.hid hY
  have H0 := Lib.hid h0
  have HA := Lib.hid hA
  clear hin hW hJ hJx hY h0 hin1 hA
  refine callsIn_of_wp Tryd.func123 rfl trivial ?_ rfl
  simp only [Tryd.ntmps123, List.size_toArray, List.length_cons, List.length_nil, Nat.reduceAdd, Nat.reduceSub, Array.replicate_succ, Array.replicate_zero, List.push_toArray, List.append_toArray, List.nil_append, List.cons_append]
  gi_wp2_with fail
  refine ⟨trivial, fun h => (by cases h), ?_⟩
  refine (callsIn_wide.2 (wholeMask_any n _ hn)).mono ?_
  rintro e w2 ⟨rfl, rfl⟩
  clear kt kn
  gi_wp2
  gi_loopw [3] (fun rv wr => ∃ i : Nat, i ≤ n ∧ rv = .int .u32 (restN (nearM M) n i : Int) ∧ PartIn wr pt bn n M ∧ J (headsTo (nearM M) n i) wr) (fun rv _ => (intOf rv).toNat)
  case atStart => exact ⟨0, Nat.zero_le _, by rw [restN_zero hn], HIN.out, H0.out⟩
  case round =>
    obtain ⟨i, hi, rfl, hp, hj⟩ := hrel
    have hrl := restN_lt (nearM M) n i
    have HP := Lib.hid hp
    have HJR := Lib.hid hj
    clear hp hj HIN H0
    by_cases h0 : restN (nearM M) n i = 0
    · have HE : Hid (headsTo (nearM M) n i = headsTo (nearM M) n n) := (headsTo_same hi (fun v h1 h2 e => by
        have := (restN_bit (A := nearM M) hn i v).2 ⟨h2, by omega⟩
        rw [h0] at this; simp at this)).symm
      rw [h0]
      clear h0
      gi_wp2
      go_end0
      exact ⟨⟨_, rfl⟩, .inl ⟨_, HE.out, HJR.out⟩⟩
    · obtain ⟨q1, q2, q3, q4, q5⟩ := restN_least HA.out hn h0
      have hsp := leastM_spec h0 hrl
      have HRE : Hid (reachN (nearM M) (bitS (restN (nearM M) n i)) (leastM (restN (nearM M) n i)) = compN (nearM M) n (leastM (restN (nearM M) n i))) := reach_rest HA.out hn hsp.2.1
      have hb1 : ((restN (nearM M) n i : Int) != 0) = true := by rw [bne_iff_ne]; omega
      have hb2 : ((restN (nearM M) n i) != 0) = true := by rw [bne_iff_ne]; exact h0
      have kt := HP.out.t
      gi_wp2
      refine wpIn_wide.2 ?_
      go_region_held3 (fun wx => wx.cell? ⟨pt, 0, none⟩ = some (.pointer (some ⟨bn, 0, none⟩))) (first | exact kt | exact kta | exact ktb)
        (first
          | (go_at_call 97; refine (least_any _ _ hrl h0 (HP.out.keep (Below.refl _ _).drew).tab).mono ?_; rintro e wa ⟨rfl, hwa⟩; have HPA : Hid (PartIn wa pt bn n M) := (by rw [← hwa]; exact HP.out.keep (Below.refl _ _).drew); have HBA : Hid (Below wr.heap.size wr wa) := (by rw [← hwa]; exact (Below.refl _ _).drew); have kta := HPA.out.t; clear hwa)
          | (go_at_call 96; refine (reached_any _ _ _ _ _ _ HPA.out.net hM hrl hsp.1 hsp.2.1).mono ?_; rintro e wb ⟨rfl, hbb⟩; rw [HRE.out]; have HPB := Lib.hid (HPA.out.keep hbb); have HBB : Hid (Below wr.heap.size wr wb) := HBA.out.trans (hbb.mono HBA.out.size); have ktb := HPB.out.t; clear hbb))
      have HJB := Lib.hid (HJ.out _ _ _ HJR.out HBB.out)
      obtain ⟨q, HQ⟩ : ∃ q, Hid (q = leastM (restN (nearM M) n i)) := ⟨_, rfl⟩
      rw [← HQ.out] at q1 q2 q3 q4 q5 ⊢
      have HHS : Hid (headsTo (nearM M) n (q + 1) = headsTo (nearM M) n i ++ [q]) := by show _ = _; rw [headsTo_succ q3, headsTo_same q1 q4]
      have hlen := headsTo_len (nearM M) n i
      obtain ⟨fn, tmps, assign, body, hy, hR⟩ := HY.out _ q wb HJB.out (by omega)
      simp only [encM] at hy
      have HR7 := Lib.hid hR
      have hcl := compN_lt (nearM M) n q
      have hbits : bits BinOp.andNot IntKind.u32 (restN (nearM M) n i : Int) (compN (nearM M) n q : Int) = ((restN (nearM M) n (q + 1) : Nat) : Int) := by
        rw [← q5, ← restN_step HA.out hn q2 q3, u32_andNot_nat _ _ (by have := restN_lt (nearM M) n q; omega) (by omega)]; rfl
      have HLT : Hid (restN (nearM M) n (q + 1) < restN (nearM M) n i) := by
        show _ < _
        rw [← q5, ← restN_step HA.out hn q2 q3]
        refine Nat.lt_of_le_of_ne Nat.and_le_left (fun e => ?_)
        have h1 : (restN (nearM M) n q).testBit q = true := (restN_bit hn q q).2 ⟨q2, by omega⟩
        have h2 : (clrM (restN (nearM M) n q) (compN (nearM M) n q)).testBit q = false := by rw [clrM_bit (restN_lt _ _ _) (compN_lt _ _ _), compN_self hn q2]; simp
        rw [show clrM (restN (nearM M) n q) (compN (nearM M) n q) = restN (nearM M) n q from e, h1] at h2
        cases h2
      clear hR kt kta ktb HRE HPA HBA HJR HJB hsp hb1 hb2 h0
      gi_wp2
      refine ⟨fun h => (by cases h), HR7.out.mono ?_⟩
      rintro e W3 (⟨rfl, hJ3, hk3⟩ | ⟨rfl, hJx3⟩)
      · have HJ3 := Lib.hid hJ3
        have HP3 := Lib.hid (HPB.out.but hk3)
        clear hJ3 hk3 hy
        gi_wp2
        go_roundw
        case rel => exact ⟨q + 1, by omega, rfl, HP3.out, by rw [HHS.out]; exact HJ3.out⟩
        case measure => simp [intOf]; exact HLT.out
      · have HX3 := Lib.hid hJx3
        clear hJx3 hy
        gi_wp2
        refine bodyPost_ret (results_none rfl _ _ _) rfl ?_
        exact ⟨⟨_, rfl⟩, .inr ⟨_, trivial, HX3.out⟩⟩

end Go.Proofs.YtjbfoiolcpigfaaDoor

/- Plain facts: masks and rows counted. -/
namespace Go.Proofs.YtjbfoiolcpigfaaDoor
open Go.RowKit

theorem listTo_bits (M k : Nat) : (listTo M k).length = bitsTo M k := by
  induction k with
  | zero => rfl
  | succ k ih =>
    rw [listTo_succ, List.length_append, ih]
    show _ = bitsTo M k + _
    by_cases h : M.testBit k = true
    · simp [h]
    · simp [h]

theorem row_listM {L : List (List Int)} (hG : GraphP L) {u : Nat} (hu : u < L.length) : listM (rowM L u) = nthR L u := by
  have hs := (hG.2.1 u hu).1
  have hp : SetP (nthR L u) 16 := SetP.mk hs.pairwise (fun x hx => by have := hs.bounds x hx; have := hG.1; omega)
  refine sets_eq (listM_set _) hp (fun z => ?_)
  rw [listM_mem, rowM, if_pos hu]
  constructor
  · rintro ⟨i, hi, hb, rfl⟩
    obtain ⟨j, hj, hz⟩ := (maskTo_bit _ _ i (fun j hj => (hs.bounds _ (nth_mem hj)).1)).1 hb
    rw [← hz]; exact nth_mem hj
  · intro hz
    have hb := hp.bounds z hz
    obtain ⟨j, hj, hjz⟩ := List.mem_iff_getElem.1 hz
    refine ⟨z.toNat, by omega, (maskTo_bit _ _ _ (fun j hj => (hs.bounds _ (nth_mem hj)).1)).2 ⟨j, hj, ?_⟩, by omega⟩
    rw [nth_eq hj, hjz]; omega

theorem row_bits {L : List (List Int)} (hG : GraphP L) {u : Nat} (hu : u < L.length) : bitsTo (rowM L u) 16 = (nthR L u).length := by
  rw [← row_listM hG hu, ← listTo_bits]; rfl

theorem sumTo_lt {f : Nat → Nat} {u : Nat} : ∀ n, (∀ i, i < n → f i ≤ 1) → u < n → f u = 0 → sumTo f n < n
  | 0, _, h, _ => by omega
  | n + 1, h, hu, h0 => by
    have hle : ∀ m, (∀ i, i < m → f i ≤ 1) → sumTo f m ≤ m := by
      intro m
      induction m with
      | zero => intro _; simp [sumTo]
      | succ m ih => intro hm; have := ih (fun i hi => hm i (by omega)); have := hm m (by omega); simp only [sumTo]; omega
    by_cases e : u = n
    · subst e
      have := hle u (fun i hi => h i (by omega))
      simp only [sumTo]; omega
    · have := sumTo_lt n (fun i hi => h i (by omega)) (by omega) h0
      have := h n (by omega)
      simp only [sumTo]; omega
theorem row_len_lt {L : List (List Int)} (hG : GraphP L) {u : Nat} (hu : u < L.length) : (nthR L u).length < L.length := by
  rw [← row_bits hG hu, deg_bits hG hu]
  exact sumTo_lt _ (fun i _ => by unfold adj; split <;> omega) hu (adj_diag hG u hu)


end Go.Proofs.YtjbfoiolcpigfaaDoor

/- Plain facts: the parts are connected, no two of them together, and they hold every vertex. -/
namespace Go.Proofs.YtjbfoiolcpigfaaDoor

theorem listM_pos {m : Nat} (hm : m < 65536) (h0 : m ≠ 0) : 0 < (listM m).length := by
  obtain ⟨h1, h2, _⟩ := leastM_spec h0 hm
  exact List.length_pos_of_mem ((listM_mem m _).2 ⟨leastM m, h1, h2, rfl⟩)
theorem listM_setP {m n : Nat} (hb : ∀ u, m.testBit u = true → u < n) : SetP (listM m) n :=
  SetP.mk (listM_set m).pairwise (fun x hx => by
    obtain ⟨i, _, h2, rfl⟩ := (listM_mem m x).1 hx
    have := hb i h2
    omega)
theorem maskTo_listM {m n : Nat} (hm : m < 65536) (hn : n ≤ 16) (hb : ∀ u, m.testBit u = true → u < n) : maskTo (listM m) (listM m).length = m := by
  have hs := listM_setP hb
  refine list_inj ?_ hm (set_list hn hs)
  exact maskTo_lt (n := n) (fun j hj => ⟨(hs j hj).1, (hs j hj).2.1⟩) (by omega) _ (Nat.le_refl _)
/-- Whether a set, told as a mask, is connected. -/
theorem conn_listM {L : List (List Int)} (hG : GraphP L) {m : Nat} (hm : m < 65536) (h0 : m ≠ 0) (hb : ∀ u, m.testBit u = true → u < L.length) : connB L (listM m) = true ↔ reachN (nearB L) (bitS m) (leastM m) = m := by
  have hs := listM_setP hb
  have hp := listM_pos hm h0
  have hk := conn_mask hG hs hp
  rw [maskTo_listM hm hG.1.2 hb, nearM_eq hG] at hk
  unfold connB setB
  rw [decide_eq_true hG, decide_eq_true hs, decide_eq_true hp]
  simp only [Bool.true_and, decide_eq_true_iff]
  exact hk.symm
section
variable {A : Nat → Nat → Bool} {n : Nat}
theorem compN_in (hn : n ≤ 16) {v u : Nat} (h : (compN A n v).testBit u = true) : u < n := (allS_iff _ _).1 ((compN_bit hn v u).1 h).mem
theorem part_reach (hA : ∀ a b, A a b = A b a) (hn : n ≤ 16) {v : Nat} (hv : v < n) : reachN A (bitS (compN A n v)) (leastM (compN A n v)) = compN A n v := by
  obtain ⟨h1, h2, h3⟩ := leastM_spec (compN_ne (A := A) hn hv) (compN_lt A n v)
  have hr := (compN_bit hn v _).1 h2
  refine bit_ext fun u => ?_
  rw [reachN_iff (bitS_lt (compN_lt _ _ _))]
  rw [reach_within (A := A) (S := allS n) (S' := bitS (compN A n v)) (fun u hu => (allS_iff _ _).2 (compN_in hn hu)) (fun a b ha hb hab => ?_) h2 u]
  · rw [compN_bit hn]
    exact ⟨fun h => hr.trans h, fun h => (hr.symm hA).trans h⟩
  · have h4 := (compN_bit hn v a).1 ha
    exact (compN_bit hn v b).2 (h4.trans ⟨1, hb, a, ⟨rfl, h4.mem⟩, hab⟩)
theorem reach_mono {S S' : Nat → Bool} (hsub : ∀ u, S' u = true → S u = true) {v u : Nat} (h : Reach A S' v u) : Reach A S v u := by
  obtain ⟨k, h⟩ := h
  refine ⟨k, ?_⟩
  induction k generalizing u with
  | zero => exact ⟨h.1, hsub _ h.2⟩
  | succ k ih => obtain ⟨hs, w, hw, ha⟩ := h; exact ⟨hsub _ hs, w, ih hw, ha⟩
theorem two_parts (hA : ∀ a b, A a b = A b a) (hn : n ≤ 16) {v w : Nat} (hv : v < n) (hw : w < n) (hhv : headN A n v = v) (hhw : headN A n w = w) (hne : v ≠ w) : reachN A (bitS (compN A n v ||| compN A n w)) (leastM (compN A n v ||| compN A n w)) ≠ compN A n v ||| compN A n w := by
  intro e
  have hl : compN A n v ||| compN A n w < 65536 := Nat.or_lt_two_pow (n := 16) (compN_lt _ _ _) (compN_lt _ _ _)
  have hS := bitS_lt hl
  have hin : ∀ u, bitS (compN A n v ||| compN A n w) u = true → allS n u = true := fun u hu => by
    unfold bitS at hu
    rw [Nat.testBit_or, Bool.or_eq_true] at hu
    rw [allS_iff]
    rcases hu with h | h
    · exact compN_in hn h
    · exact compN_in hn h
  have hkey : ∀ u, (compN A n v ||| compN A n w).testBit u = true → Reach A (allS n) (leastM (compN A n v ||| compN A n w)) u := fun u hu => by
    rw [← e] at hu
    exact reach_mono hin ((reachN_iff hS u).1 hu)
  have h1 := hkey v (by rw [Nat.testBit_or, compN_self hn hv]; rfl)
  have h2 := hkey w (by rw [Nat.testBit_or, compN_self hn hw]; simp)
  have h3 := headN_eq hA hn ((h1.symm hA).trans h2)
  rw [hhv, hhw] at h3
  exact hne h3.symm
theorem listM_bits (m : Nat) : (listM m).length = bitsTo m 16 := listTo_bits m 16
/-- How many vertices have a part that begins below k. -/
noncomputable def cntH (A : Nat → Nat → Bool) (n k : Nat) : Nat := sumTo (fun u => if headN A n u < k then 1 else 0) n
theorem compN_many (hA : ∀ a b, A a b = A b a) (hn : n ≤ 16) {v : Nat} (_hv : v < n) (hh : headN A n v = v) : (listM (compN A n v)).length = sumTo (fun u => if headN A n u = v then 1 else 0) n := by
  rw [listM_bits, bitsTo_sum, show (16 : Nat) = n + (16 - n) from by omega, sumTo_split _ n _ (fun i h1 h2 => ?_)]
  · refine sumTo_congr (fun u hu => ?_)
    have hiff : (compN A n v).testBit u = true ↔ headN A n u = v := by
      rw [compN_bit hn]
      constructor
      · intro h; rw [headN_eq hA hn h, hh]
      · intro h
        have := (headN_spec hA hn hu).2.1
        rw [h] at this
        exact this.symm hA
    by_cases h : headN A n u = v
    · rw [if_pos (hiff.2 h), if_pos h]
    · rw [if_neg (fun h' => h (hiff.1 h')), if_neg h]
  · rw [if_neg]
    intro h
    have := compN_in (A := A) hn h
    omega
theorem heads_sum (hA : ∀ a b, A a b = A b a) (hn : n ≤ 16) : ∀ k, k ≤ n → ((headsTo A n k).map (fun v => (listM (compN A n v)).length)).sum = cntH A n k := by
  intro k
  induction k with
  | zero =>
    intro _
    show _ = cntH A n 0
    unfold cntH
    rw [sumTo_zero (fun i _ => by simp)]
    rfl
  | succ k ih =>
    intro hk
    have hstep : cntH A n (k + 1) = cntH A n k + sumTo (fun u => if headN A n u = k then 1 else 0) n := by
      unfold cntH
      rw [← sumTo_add]
      refine sumTo_congr (fun u _ => ?_)
      by_cases h1 : headN A n u < k
      · rw [if_pos h1, if_pos (by omega), if_neg (by omega)]
      · by_cases h2 : headN A n u = k
        · rw [if_neg h1, if_pos (by omega), if_pos h2]
        · rw [if_neg h1, if_neg (by omega), if_neg h2]
    by_cases hh : headN A n k = k
    · rw [headsTo_succ hh, List.map_append, List.sum_append, ih (by omega), hstep, ← compN_many hA hn (by omega) hh]
      simp
    · have hsame : headsTo A n (k + 1) = headsTo A n k := headsTo_same (by omega) (fun v h1 h2 e => by
        have e2 : v = k := by omega
        rw [e2] at e
        exact hh e)
      rw [hsame, ih (by omega), hstep]
      rw [sumTo_zero (fun u hu => if_neg (fun e => ?_)), Nat.add_zero]
      have := (headN_spec hA hn hu).2.2.1
      rw [e] at this
      exact hh this
theorem parts_sum (hA : ∀ a b, A a b = A b a) (hn : n ≤ 16) : ((headsTo A n n).map (fun v => (listM (compN A n v)).length)).sum = n := by
  rw [heads_sum hA hn n (Nat.le_refl _)]
  unfold cntH
  have : ∀ m, sumTo (fun _ => 1) m = m := fun m => by
    induction m with
    | zero => rfl
    | succ m ih => simp [sumTo, ih]
  rw [sumTo_congr (g := fun _ => 1) (fun u hu => if_pos ?_), this]
  have := (headN_spec hA hn hu).1
  omega
theorem headsTo_mem {k v : Nat} : v ∈ headsTo A n k ↔ v < k ∧ headN A n v = v := by
  unfold headsTo
  rw [List.mem_filter, List.mem_range, beq_iff_eq]
theorem headsTo_nodup (k : Nat) : (headsTo A n k).Nodup := List.nodup_range.filter _
end

/-- Sorted, without repeating: what is in one of both. -/
def bothM (xs ys : List Int) : Nat := pm (fun v => hasB xs (v : Int) || hasB ys (v : Int))
def bothL (xs ys : List Int) : List Int := listM (bothM xs ys)
theorem bothM_lt (xs ys : List Int) : bothM xs ys < 65536 := pm_lt _
theorem hasB_listM {m u : Nat} (hu : u < 16) : hasB (listM m) (u : Int) = m.testBit u := by
  rw [Bool.eq_iff_iff, hasB_mem, listM_mem]
  constructor
  · rintro ⟨i, _, h2, h3⟩
    obtain rfl : i = u := by omega
    exact h2
  · intro h; exact ⟨u, hu, h, rfl⟩
theorem both_masks {a b : Nat} (ha : a < 65536) (hb : b < 65536) : bothM (listM a) (listM b) = a ||| b := by
  refine bit_ext fun u => ?_
  unfold bothM
  rw [pm_bit, Nat.testBit_or, Bool.and_eq_true, decide_eq_true_iff]
  constructor
  · rintro ⟨h1, h2⟩; rwa [hasB_listM h1, hasB_listM h1] at h2
  · intro h
    have hu : u < 16 := by
      rw [Bool.or_eq_true] at h
      rcases h with h | h
      · exact bitS_lt ha u h
      · exact bitS_lt hb u h
    exact ⟨hu, by rw [hasB_listM hu, hasB_listM hu]; exact h⟩

section
variable {L : List (List Int)}
theorem partsL_heads (hG : GraphP L) : partsL L = (headsTo (nearB L) L.length L.length).map (fun v => listM (compN (nearB L) L.length v)) := by
  unfold partsL
  rw [if_pos hG, ← headsTo_map, List.map_map]
  rfl
theorem partsL_at (hG : GraphP L) {i : Nat} (hi : i < (partsL L).length) : ∃ v, v < L.length ∧ headN (nearB L) L.length v = v ∧ nthR (partsL L) i = listM (compN (nearB L) L.length v) ∧ (headsTo (nearB L) L.length L.length)[i]? = some v := by
  rw [partsL_heads hG] at hi ⊢
  rw [List.length_map] at hi
  have hm := headsTo_mem.1 (List.getElem_mem hi)
  exact ⟨_, hm.1, hm.2, by simp [nthR, hi], by simp [hi]⟩
theorem part_conn (hG : GraphP L) {i : Nat} (hi : i < (partsL L).length) : connB L (nthR (partsL L) i) = true := by
  have hz := hG.1
  obtain ⟨v, h1, h2, h3, _⟩ := partsL_at hG hi
  rw [h3, conn_listM hG (compN_lt _ _ _) (compN_ne hz.2 h1) (fun u hu => compN_in hz.2 hu)]
  exact part_reach (nearB_symm hG) hz.2 h1
theorem parts_apart (hG : GraphP L) {k i : Nat} (hk : k < i) (hi : i < (partsL L).length) : connB L (bothL (nthR (partsL L) k) (nthR (partsL L) i)) = false := by
  have hz := hG.1
  obtain ⟨v, h1, h2, h3, h4⟩ := partsL_at hG (i := k) (by omega)
  obtain ⟨x, k1, k2, k3, k4⟩ := partsL_at hG hi
  have hne : v ≠ x := by
    intro e
    rw [← e] at k4
    have := (List.getElem?_inj (by have := (List.getElem?_eq_some_iff.1 h4).1; exact this) (headsTo_nodup _)).1 (h4.trans k4.symm)
    omega
  rw [h3, k3]
  unfold bothL
  rw [both_masks (compN_lt _ _ _) (compN_lt _ _ _)]
  rw [Bool.eq_false_iff]
  intro hc
  have hl : compN (nearB L) L.length v ||| compN (nearB L) L.length x < 65536 := Nat.or_lt_two_pow (n := 16) (compN_lt _ _ _) (compN_lt _ _ _)
  refine two_parts (nearB_symm hG) hz.2 h1 k1 h2 k2 hne ((conn_listM hG hl ?_ ?_).1 hc)
  · intro e
    have h5 := compN_self (A := nearB L) hz.2 h1
    have h6 : (compN (nearB L) L.length v ||| compN (nearB L) L.length x).testBit v = true := by rw [Nat.testBit_or, h5]; rfl
    rw [e] at h6
    simp at h6
  · intro u hu
    rw [Nat.testBit_or, Bool.or_eq_true] at hu
    rcases hu with h | h
    · exact compN_in hz.2 h
    · exact compN_in hz.2 h
/-- How many vertices the first k parts have. -/
noncomputable def partsSum (L : List (List Int)) (k : Nat) : Nat := (((partsL L).take k).map List.length).sum
theorem partsSum_succ {k : Nat} (hk : k < (partsL L).length) : partsSum L (k + 1) = partsSum L k + (nthR (partsL L) k).length := by
  unfold partsSum
  rw [List.take_succ_eq_append_getElem hk, List.map_append, List.sum_append, nthR_eq hk]
  simp
theorem partsSum_all (hG : GraphP L) : partsSum L (partsL L).length = L.length := by
  unfold partsSum
  rw [List.take_length, partsL_heads hG, List.map_map]
  exact parts_sum (nearB_symm hG) hG.1.2
theorem partsSum_le (hG : GraphP L) (k : Nat) (hk : k ≤ (partsL L).length) : partsSum L k ≤ L.length := by
  rw [← partsSum_all hG]
  have : ∀ d, k + d ≤ (partsL L).length → partsSum L k ≤ partsSum L (k + d) := by
    intro d
    induction d with
    | zero => intro _; exact Nat.le_refl _
    | succ d ih =>
      intro h
      have h1 := ih (by omega)
      have h2 := partsSum_succ (L := L) (k := k + d) (by omega)
      rw [show k + (d + 1) = k + d + 1 from rfl, h2]
      omega
  have h := this ((partsL L).length - k) (by omega)
  rwa [show k + ((partsL L).length - k) = (partsL L).length from by omega] at h
end

end Go.Proofs.YtjbfoiolcpigfaaDoor

/- Walks: the cursor over a code's bytes. -/
namespace Go.Proofs.YtjbfoiolcpigfaaDoor
open Go.RowKit

theorem and255_i64 (x : Int) : 0 ≤ bits BinOp.and IntKind.i64 x 255 ∧ bits BinOp.and IntKind.i64 x 255 ≤ 255 := by
  have e : bits BinOp.and IntKind.i64 x 255 = IntKind.i64.wrap ((BitVec.ofInt 64 x &&& BitVec.ofInt 64 255).toNat : Int) := rfl
  rw [e, BitVec.toNat_and]
  have h1 : (BitVec.ofInt 64 255).toNat = 255 := by decide
  have h2 : (BitVec.ofInt 64 x).toNat &&& 255 ≤ 255 := Nat.and_le_right
  rw [h1, IntKind.wrap_i64]
  omega

/-- Block c holds a cursor over the n bytes of bv. -/
def CurAt (w : World) (c : Nat) (bv : Value) (n : Nat) : Prop := ∃ (i : Nat) (h : Int), i ≤ n ∧ w.heap[c]? = some (.cells #[bv, .int .i64 (i : Int), .int .i64 h] 123 (0, 0))
/-- A slice of n bytes below block c. -/
def BytesAt (w : World) (c : Nat) (bv : Value) (n : Nat) : Prop := n ≤ 4096 ∧ ∃ a cap, bv = .slice a n cap ∧ (0 < n → ∃ b o, a = some ⟨b, o, none⟩ ∧ b < c ∧ ∀ i, i < n → ∃ x : Nat, x < 256 ∧ w.cell? ⟨b, o + i, none⟩ = some (.int .u8 (x : Int)))
theorem BytesAt.keepB {w w' : World} {c n B : Nat} {bv : Value} (h : BytesAt w c bv n) (hb : Below B w w') (hB : c ≤ B) : BytesAt w' c bv n := by
  obtain ⟨h1, a, cap, e, h2⟩ := h
  refine ⟨h1, a, cap, e, fun hn => ?_⟩
  obtain ⟨b, o, ea, hb', hc⟩ := h2 hn
  refine ⟨b, o, ea, hb', fun i hi => ?_⟩
  obtain ⟨x, hx, hcx⟩ := hc i hi
  exact ⟨x, hx, by rw [hb.cell (by simp; omega)]; exact hcx⟩
theorem CurAt.keepB {w w' : World} {c n B : Nat} {bv : Value} (h : CurAt w c bv n) (hb : Below B w w') (hB : c < B) : CurAt w' c bv n := by
  obtain ⟨i, k, hi, hh⟩ := h
  exact ⟨i, k, hi, by rw [hb.block c hB]; exact hh⟩
theorem CurAt.lt {w : World} {c n : Nat} {bv : Value} (h : CurAt w c bv n) : c < w.heap.size := by
  obtain ⟨i, k, hi, hh⟩ := h
  exact (Array.getElem?_eq_some_iff.1 hh).1
theorem OnlyBlk.below {g : Nat} {w w' : World} (h : OnlyBlk g w w') : Below g w w' := ⟨h.os, h.tape, h.output, Nat.le_of_eq h.size.symm, fun k hk => h.other k (by omega)⟩
theorem OnlyBlk.trans {g : Nat} {a b c : World} (h : OnlyBlk g a b) (k : OnlyBlk g b c) : OnlyBlk g a c := ⟨k.os.trans h.os, k.tape.trans h.tape, k.output.trans h.output, k.size.trans h.size, fun j hj => (k.other j hj).trans (h.other j hj)⟩
theorem OnlyBlk.drewN {g : Nat} {w w' : World} (h : OnlyBlk g w w') (n : Nat) : OnlyBlk g w (w'.drewN n) := ⟨h.os, h.tape, h.output, h.size, h.other⟩
theorem OnlyBlk.drawn {g : Nat} {w w' w2 : World} (h : OnlyBlk g w w') (hd : Drawn w' w2) : OnlyBlk g w w2 := by obtain ⟨n, rfl⟩ := hd; exact h.drewN n

/-- A number has been drawn from the cursor: it fulfils p; only the cursor has turned. -/
def Drew (w : World) (c : Nat) (bv : Value) (n : Nat) (p : Int → Prop) (e : Ending) (w' : World) : Prop :=
  ∃ x : Int, e = .returned (.int .i64 x) ∧ p x ∧ CurAt w' c bv n ∧ OnlyBlk c w w'

theorem cur_set2 {w : World} {c : Nat} {bv : Value} {i h : Int} {T : TypeId} (hh : w.heap[c]? = some (.cells #[bv, .int .i64 i, .int .i64 h] T (0, 0))) (h' : Int) : (w.setCell ⟨c, 2, none⟩ (.int .i64 h')).heap[c]? = some (.cells #[bv, .int .i64 i, .int .i64 h'] T (0, 0)) := heap_setCell_same w c 2 _ _ _ hh
theorem cur_set1 {w : World} {c : Nat} {bv : Value} {i h : Int} {T : TypeId} (hh : w.heap[c]? = some (.cells #[bv, .int .i64 i, .int .i64 h] T (0, 0))) (i' : Int) : (w.setCell ⟨c, 1, none⟩ (.int .i64 i')).heap[c]? = some (.cells #[bv, .int .i64 i', .int .i64 h] T (0, 0)) := heap_setCell_same w c 1 _ _ _ hh

set_option maxHeartbeats 1600000 in
theorem l1Byte_any (c n : Nat) (bv : Value) (w : World) (hc : CurAt w c bv n) (hb : BytesAt w c bv n) : Calls Tryd.prog 142 #[.pointer (some ⟨c, 0, none⟩)] w (Drew w c bv n (fun x => 0 ≤ x ∧ x ≤ 255)) := by
  obtain ⟨i, h, hi, hh⟩ := hc
  obtain ⟨hn, a, cap, rfl, hbs⟩ := hb
  have k0 : w.cell? ⟨c, 0, none⟩ = some (.slice a n cap) := by rw [cell_of_row w c 0 _ _ _ hh]; rfl
  have k1 : w.cell? ⟨c, 1, none⟩ = some (.int .i64 (i : Int)) := by rw [cell_of_row w c 1 _ _ _ hh]; rfl
  have k2 : w.cell? ⟨c, 2, none⟩ = some (.int .i64 h) := by rw [cell_of_row w c 2 _ _ _ hh]; rfl
  have f1 : w.frozen? ⟨c, 1, none⟩ = false := frozen_of_row w c 1 _ _ hh
  have f2 : w.frozen? ⟨c, 2, none⟩ = false := frozen_of_row w c 2 _ _ hh
  have HH := Lib.hid hh
  have HBS := Lib.hid hbs
  clear hh hbs
  by_cases hlt : i < n
  · have hd : decide ((i : Int) < (n : Int)) = true := by simp; omega
    obtain ⟨b, o, rfl, hbc, hcs⟩ := HBS.out (by omega)
    obtain ⟨x, hx, hcx⟩ := hcs i hlt
    have hne : b ≠ c := by omega
    clear hcs
    go_enter Tryd.func142, Tryd.ntmps142
    go_wp2
    go_quiet (fail)
    go_wp2
    go_quiet (fail)
    go_wp2
    go_quiet (fail)
    go_wp2
    go_ret
    have e1 : IntKind.i64.wrap ((i : Int) + 1) = ((i + 1 : Nat) : Int) := by rw [IntKind.wrap_i64]; omega
    have ho := ((OnlyBlk.refl c w).setCell 2 (.int .i64 (wrap64 (wrap64 (h * 6364136223846793005) + 1442695040888963407)))).setCell 1 (.int .i64 ((i + 1 : Nat) : Int))
    exact ⟨_, rfl, and255_i64 _, ⟨i + 1, _, hlt, cur_set1 (cur_set2 HH.out (wrap64 (wrap64 (h * 6364136223846793005) + 1442695040888963407))) _⟩, ⟨ho.os, ho.tape, ho.output, ho.size, ho.other⟩⟩
  · have hd : decide ((i : Int) < (n : Int)) = false := by simp; omega
    go_enter Tryd.func142, Tryd.ntmps142
    go_wp2
    go_quiet (fail)
    go_wp2
    go_quiet (fail)
    go_wp2
    go_ret
    exact ⟨_, rfl, and255_i64 _, ⟨i, _, hi, cur_set2 HH.out _⟩, ((OnlyBlk.refl c w).setCell 2 _).drewN _ |>.drewN _⟩

end Go.Proofs.YtjbfoiolcpigfaaDoor

/- Walks: numbers drawn from a cursor. -/
namespace Go.Proofs.YtjbfoiolcpigfaaDoor
open Go.RowKit

theorem OnlyBlk.bytes {c n : Nat} {w w' : World} {bv : Value} (h : OnlyBlk c w w') (hb : BytesAt w c bv n) : BytesAt w' c bv n := hb.keepB h.below (Nat.le_refl _)

/-- What l1Below may give. -/
def InBelow (m x : Int) : Prop := (m ≤ 0 → x = 0) ∧ (0 < m → 0 ≤ x ∧ x < m)
theorem inBelow_mod (y : Int) {m : Int} (hm : 0 < m) : InBelow m (y % m) := ⟨fun h => by omega, fun _ => ⟨Int.emod_nonneg _ (by omega), Int.emod_lt_of_pos _ hm⟩⟩
theorem inBelow_rem {m y : Int} (hy : 0 ≤ y) (hm : 0 < m) : InBelow m (y.tmod m) := by
  refine ⟨fun h => by omega, fun _ => ⟨Int.tmod_nonneg _ hy, Int.tmod_lt_of_pos _ hm⟩⟩

set_option maxHeartbeats 1600000 in
theorem l1Below_any (c n : Nat) (bv : Value) (m : Int) (w : World) (hc : CurAt w c bv n) (hb : BytesAt w c bv n) (hm : I64 m) : Calls Tryd.prog 127 #[.pointer (some ⟨c, 0, none⟩), .int .i64 m] w (Drew w c bv n (InBelow m)) := by
  unfold I64 at hm
  by_cases h0 : m ≤ 0
  · have HC := Lib.hid hc
    have d0 : decide (m ≤ 0) = true := by simpa using h0
    clear hc hb
    go_enter Tryd.func127, Tryd.ntmps127
    go_wp2
    go_ret
    exact ⟨0, rfl, ⟨fun _ => rfl, fun h => by omega⟩, HC.out, OnlyBlk.refl _ _⟩
  · have d0 : decide (m ≤ 0) = false := by simpa using h0
    have HB := Lib.hid hb
    clear hb
    by_cases h1 : m ≤ 256
    · have d1 : decide (m ≤ 256) = true := by simpa using h1
      have hm0 : m ≠ 0 := by omega
      go_enter Tryd.func127, Tryd.ntmps127
      go_wp2_with fail
      refine (l1Byte_any _ _ _ _ hc HB.out).mono ?_
      rintro e w1 ⟨x, rfl, ⟨hx0, hx1⟩, hc1, ho1⟩
      have HC1 := Lib.hid hc1
      have HO1 := Lib.hid ho1
      clear hc hc1 ho1
      go_wp2
      go_ret
      exact ⟨_, rfl, inBelow_mod _ (by omega), HC1.out, HO1.out⟩
    · have d1 : decide (m ≤ 256) = false := by simpa using h1
      have hm0 : m ≠ 0 := by omega
      go_enter Tryd.func127, Tryd.ntmps127
      go_wp2_with fail
      refine (l1Byte_any _ _ _ _ hc HB.out).mono ?_
      rintro e w1 ⟨x, rfl, ⟨hx0, hx1⟩, hc1, ho1⟩
      have HO1 := Lib.hid ho1
      clear hc ho1
      go_wp2_with fail
      refine (l1Byte_any _ _ _ _ hc1 (HO1.out.bytes HB.out)).mono ?_
      rintro e w2 ⟨y, rfl, ⟨hy0, hy1⟩, hc2, ho2⟩
      have HO2 := Lib.hid (HO1.out.trans ho2)
      clear hc1 ho2
      go_wp2_with fail
      refine (l1Byte_any _ _ _ _ hc2 (HO2.out.bytes HB.out)).mono ?_
      rintro e w3 ⟨z, rfl, ⟨hz0, hz1⟩, hc3, ho3⟩
      have HO3 := Lib.hid (HO2.out.trans ho3)
      clear hc2 ho3
      go_wp2_with fail
      refine (l1Byte_any _ _ _ _ hc3 (HO3.out.bytes HB.out)).mono ?_
      rintro e w4 ⟨u, rfl, ⟨hu0, hu1⟩, hc4, ho4⟩
      have HC4 := Lib.hid hc4
      have HO4 := Lib.hid (HO3.out.trans ho4)
      clear hc3 ho4 hc4
      have hs0 : 0 ≤ x * 16777216 + y * 65536 + z * 256 + u := by omega
      go_wp2
      go_ret
      refine ⟨_, rfl, ?_, HC4.out, HO4.out⟩
      exact inBelow_mod _ (by omega)


/-- A coin has been drawn from the cursor. -/
def Coin (w : World) (c : Nat) (bv : Value) (n : Nat) (e : Ending) (w' : World) : Prop :=
  ∃ b : Bool, e = .returned (.bool b) ∧ CurAt w' c bv n ∧ OnlyBlk c w w'
theorem l1Once_any (c n : Nat) (bv : Value) (m : Int) (w : World) (hc : CurAt w c bv n) (hb : BytesAt w c bv n) (hm : I64 m) : Calls Tryd.prog 126 #[.pointer (some ⟨c, 0, none⟩), .int .i64 m] w (Coin w c bv n) := by
  go_enter Tryd.func126, Tryd.ntmps126
  go_wp2_with fail
  refine (l1Below_any _ _ _ _ _ hc hb hm).mono ?_
  rintro e w1 ⟨x, rfl, hx, hc1, ho1⟩
  have HC1 := Lib.hid hc1
  have HO1 := Lib.hid ho1
  clear hc hb hc1 ho1 hx
  go_wp2
  go_ret
  exact ⟨_, rfl, HC1.out, HO1.out⟩

end Go.Proofs.YtjbfoiolcpigfaaDoor
