/- The texts W2, W3, W4, joined. -/
import Derived.Test.YtojbaepcflkgeaaW1
import Derived.Test.YtojbaepcflkgeaaQM7
import Derived.Test.YtojbaepcflkgeaaQF1
import Derived.Deep.AppendLies
import Derived.Test.YtojbaepcflkgeaaQV1
import Derived.Deep.RegionHeld3

/- Walks: the model's distances. -/
namespace Go.Proofs.Ytojbaepcflkgeaa
open Go.RowKit

theorem OwnRow.far' {T : TypeId} {w w' : World} {B : Nat} {v : Value} {xs : List Int} {r : Option Nat} (h : OwnRow T w B v xs) (hg : w.grownBy w' r) (hne : ∀ k, v.ownBlock = some k → some k ≠ r) : OwnRow T w' B v xs := by
  obtain ⟨h1, h2, h3⟩ := h
  refine ⟨h1, h2, ?_⟩
  rcases h3 with h3 | ⟨g, cap, cur, e, hgB, hh, rest⟩
  · exact Or.inl h3
  · refine Or.inr ⟨g, cap, cur, e, hgB, ?_, rest⟩
    rw [hg.block g (Array.getElem?_eq_some_iff.1 hh).1 (hne g (by rw [e]; rfl))]
    exact hh

theorem OwnRow.laidAt' {T : TypeId} {w : World} {B g cap n : Nat} {ys : List Int} (h : OwnRow T w B (.slice (some ⟨g, 0, none⟩) n cap) ys) (hn : ys.length = n) {k : Nat} (hk : k < n) {z : Int} (hz : I64 z) :
    OwnRow T (w.setCell ⟨g, k, none⟩ (.int .i64 z)) B (.slice (some ⟨g, 0, none⟩) n cap) (ys.set k z) ∧ w.cell? ⟨g, k, none⟩ = some (.int .i64 (nth ys k)) ∧ w.frozen? ⟨g, k, none⟩ = false ∧ B ≤ g := by
  subst hn
  obtain ⟨h1, h2, h3⟩ := h
  rcases h3 with ⟨e, _⟩ | ⟨g', cap', cur, e, hgB, hh, l1, l2, hs, hc⟩
  · simp at e
  · simp only [Value.slice.injEq, Option.some.injEq, Addr.mk.injEq, and_true, true_and] at e
    obtain ⟨rfl, rfl⟩ := e
    have hlen : (ys.set k z).length = ys.length := List.length_set
    refine ⟨⟨fun x hx => ?_, by rw [hlen]; exact h2, Or.inr ⟨g, cap, cur.set! k (.int .i64 z), by rw [hlen], hgB, heap_setCell_same w g k _ _ _ hh, by rw [hlen]; exact l1, l2, by simp [hs], fun i hi => ?_⟩⟩, by rw [cell_of_row w g k cur T _ hh]; exact hc k hk, ?_, hgB⟩
    · rcases List.mem_or_eq_of_mem_set hx with h | rfl
      · exact h1 x h
      · exact hz
    · have hi' : i < ys.length := by rw [hlen] at hi; exact hi
      rw [nth_eq hi, List.getElem_set]
      by_cases e : k = i
      · subst e; have hks : k < cur.size := by omega
        simp [hks]
      · rw [if_neg e, ← nth_eq hi', ← hc i hi']; simp [e]
    · exact frozen_of_row w g k cur T hh
theorem OwnRow.cells' {T : TypeId} {w : World} {B b n cl : Nat} {xs : List Int} (h : OwnRow T w B (.slice (some ⟨b, 0, none⟩) n cl) xs) : ∀ i, i < xs.length → w.cell? ⟨b, i, none⟩ = some (.int .i64 (nth xs i)) := by
  obtain ⟨h1, h2, h3⟩ := h
  rcases h3 with ⟨e, _⟩ | ⟨g', cap', cur, e, hgB, hh, l1, l2, hs, hc⟩
  · simp at e
  · simp only [Value.slice.injEq, Option.some.injEq, Addr.mk.injEq, and_true] at e
    obtain ⟨rfl, _, _⟩ := e
    intro i hi
    rw [cell_of_row w b i cur T _ hh]
    exact hc i hi
/-- A row of one's own that is not empty lies in a block. -/
theorem OwnRow.posB {T : TypeId} {w : World} {B : Nat} {v : Value} {xs : List Int} (h : OwnRow T w B v xs) (h0 : 0 < xs.length) : ∃ g cap, v = .slice (some ⟨g, 0, none⟩) xs.length cap ∧ B ≤ g ∧ g < w.heap.size ∧ xs.length ≤ cap ∧ cap ≤ maxLen := by
  rcases h.2.2 with ⟨_, e⟩ | ⟨g, cap, cur, e, hgB, hh, l1, l2, hs, hc⟩
  · rw [e] at h0; simp at h0
  · exact ⟨g, cap, e, hgB, (Array.getElem?_eq_some_iff.1 hh).1, l1, l2⟩

/-- Who is near whom. -/
def nearB (L : List (List Int)) (a b : Nat) : Bool := hasB (nthR L a) (b : Int)
/-- Who is in a list. -/
def inS (xs : List Int) (u : Nat) : Bool := hasB xs (u : Int)

/-- The two rows of a search: the distances so far, and who was met. -/
structure Seek (W : World) (g cap n : Nat) (out met : List Int) (vm : Value) (wr : World) : Prop where
  out : OwnRow 2 wr W.heap.size (.slice (some ⟨g, 0, none⟩) n cap) out
  met : OwnRow 2 wr W.heap.size vm met
  ne : ∀ k, vm.ownBlock = some k → k ≠ g
  bel : Below W.heap.size W wr
theorem Seek.later {W : World} {g cap n : Nat} {out met : List Int} {vm : Value} {wr w' : World} (h : Seek W g cap n out met vm wr) (hb : Below wr.heap.size wr w') : Seek W g cap n out met vm w' :=
  ⟨h.out.keep hb, h.met.keep hb, h.ne, h.bel.trans (hb.mono h.bel.size)⟩
theorem Seek.put {W : World} {g cap n : Nat} {out met : List Int} {vm : Value} {wr : World} (h : Seek W g cap n out met vm wr) (hn : out.length = n) {k : Nat} (hk : k < n) {z : Int} (hz : I64 z) : Seek W g cap n (out.set k z) met vm (wr.setCell ⟨g, k, none⟩ (.int .i64 z)) :=
  ⟨(h.out.laidAt' hn hk hz).1, h.met.setCell (fun e => h.ne _ e rfl) _, h.ne, h.bel.setCell (p := ⟨g, k, none⟩) (h.out.laidAt' hn hk hz).2.2.2 _⟩
theorem Seek.more {W : World} {g cap n : Nat} {out met : List Int} {vm : Value} {wr : World} (h : Seek W g cap n out met vm wr) {o : Obj} {v' : Value} {w' : World} {x : Int} (hx : I64 x) (hm : met.length + 1 ≤ maxLen)
    (hown : w'.ownsRow W.heap.size 2 1 v' (met.length + 1) (met.map (Value.int .i64) ++ [.int .i64 x])) (hgrow : (wr.alloc o).grownBy w' vm.ownBlock) (hv' : ∀ k, v'.ownBlock = some k → vm.ownBlock = some k ∨ wr.heap.size ≤ k) :
    Seek W g cap n out (met ++ [x]) v' w' := by
  have hbA : Below wr.heap.size wr (wr.alloc o) := (Below.refl _ _).alloc (Nat.le_refl _) _
  have hlt := (h.out.lt g rfl).2
  refine ⟨(h.out.keep hbA).far' hgrow ?_, OwnRow.of_ownsRow (n := met.length + 1) (by simpa using hown) (by simpa using hm) (fun y hy => ?_), fun k hk => ?_, ?_⟩
  · intro k hk e
    simp [Value.ownBlock] at hk
    subst hk
    exact h.ne _ e.symm rfl
  · rcases List.mem_append.1 hy with hy | hy
    · exact h.met.1 y hy
    · simp at hy; subst hy; exact hx
  · rcases hv' k hk with h1 | h1
    · exact h.ne k h1
    · intro e; omega
  · exact ((h.bel.trans (hbA.mono h.bel.size))).grown hgrow (by simp; have := h.bel.size; omega) (fun j hj => (h.met.lt j hj).1)

end Go.Proofs.Ytojbaepcflkgeaa

/- Walks: the model's distances, the walk. -/
namespace Go.Proofs.Ytojbaepcflkgeaa
open Go.RowKit

theorem wkS {xs : List Int} {n : Nat} (h : ∀ x ∈ xs, 0 ≤ x ∧ x < (n : Int)) : ∀ u, inS xs u = true → u < n := by
  intro u hu
  obtain ⟨i, hi, e⟩ := (hasB_iff _ _).1 hu
  have := h _ (nth_mem hi)
  omega

set_option maxHeartbeats 4000000 in
set_option maxRecDepth 100000 in
theorem l3From_any (v v1 : Value) (L : List (List Int)) (u : Nat) (xs : List Int) (w : World) (h : GridAt w v L) (hG : GraphP L) (hu : u < L.length) (h1 : RowAt w v1 xs) (hx : ∀ x ∈ xs, 0 ≤ x ∧ x < (L.length : Int)) :
    Calls Try.prog 87 #[.agg #[v], .int .i64 (u : Int), v1] w (GaveRow w (distL L.length (nearB L) (inS xs) u)) := by
  have hz := hG.1
  have hS := Lib.hid (wkS hx)
  have HG := Lib.hid hG
  obtain ⟨b, o, c, A, C, rfl, l1, l2, hc⟩ := h.pos (by omega)
  obtain ⟨W1, hW1⟩ : ∃ W1, W1 = w.alloc (.cells #[.slice (some ⟨b, o, none⟩) L.length c] 30) := ⟨_, rfl⟩
  have hs1 : W1.heap.size = w.heap.size + 1 := by rw [hW1]; simp
  have ha : Below w.heap.size w W1 := by rw [hW1]; exact (Below.refl _ _).alloc (Nat.le_refl _) _
  have kb : W1.cell? ⟨w.heap.size, 0, none⟩ = some (.slice (some ⟨b, o, none⟩) L.length c) := by rw [hW1]; go_simp
  have HC : Hid (∀ i, i < L.length → W1.cell? ⟨b, o + i, none⟩ = some (.slice (A i) (nthR L i).length (C i)) ∧ RowAt W1 (.slice (A i) (nthR L i).length (C i)) (nthR L i)) := fun i hi => ⟨cell_keep ha (hc i hi).1, (hc i hi).2.keep ha⟩
  have HGr := Lib.hid (h.keep ha)
  have HX := Lib.hid (h1.keep ha)
  have KB := Lib.hid kb
  have HA := Lib.hid ha
  have HS1 := Lib.hid hs1
  have HW1 := Lib.hid hW1
  clear hc ha hs1 kb hW1 h h1 hG hx
  obtain ⟨i0, hi, hz0, hz1, hz2⟩ := info_parts Try.infoI
  go_enter Try.func87, Try.ntmps87
  go_wp2_with fail
  rw [← HW1.out]
  have hown0 : (W1.alloc (.cells #[] 2)).ownsRow W1.heap.size 2 1 (.slice (some ⟨W1.heap.size, 0, none⟩) 0 0) 0 [] := World.ownsRow_lit W1 #[] 0 (Nat.le_refl _) (Nat.zero_le _) rfl
  rw [HS1.out] at hown0
  have HO0 := Lib.hid hown0
  clear hown0
  go_loopw [7, 8] (fun s i wr => ∃ k : Nat, k ≤ L.length ∧ i = .int .i64 k ∧ OwnRow 2 wr W1.heap.size s (List.replicate k (-1 : Int)) ∧ Below W1.heap.size W1 wr) (fun _ i _ => L.length - (intOf i).toNat)
  case atStart => exact ⟨0, Nat.zero_le _, rfl, OwnRow.of_ownsRow (n := 0) (by rw [HS1.out]; exact HO0.out) (Nat.zero_le _) (fun x hx => absurd hx (by simp)), (Below.refl _ _).alloc (Nat.le_refl _) _⟩
  case round =>
    obtain ⟨k, hk, rfl, ho, hb⟩ := hrel
    have hkb := cell_keep hb KB.out
    have hg2 := Lib.hid (HGr.out.keep hb)
    have HO := Lib.hid ho
    have HB := Lib.hid hb
    clear ho hb
    go_wp2_with fail
    refine (l1Size_any _ _ _ hg2.out).mono ?_
    rintro e w2 ⟨rfl, hb2⟩
    have HB2 : Hid (Below W1.heap.size W1 w2) := HB.out.trans (hb2.mono HB.out.size)
    have hz2' : W1.heap.size ≤ w2.heap.size := HB2.out.size
    have HO2 := Lib.hid (HO.out.keep hb2)
    clear hb2 hkb hg2 HO HB
    by_cases hlt : k < L.length
    · go_wp2_with (at_builtin; refine wpList_append_own _ rfl (.tmp 20) (.tmp 21) 35 rfl W1.heap.size 2 i0 (.int .i64 0) 1 8 Try.underlying35 hi hz0 hz1 hz2 rfl (by decide) _ _ _ rfl (HO2.out.owns.alloc _) ⟨w2.heap.size, 0, none⟩ 1 1 [.int .i64 (-1)] rfl rfl ?d1 ?d2 ?d3 ?d4 ?d5 ?_)
      case d1 =>
        intro j u hj
        match j, hj with
        | 0, hj => simp at hj; subst hj; simp [Addr.add]
      case d2 => intro u hu; simp at hu; subst hu; rfl
      case d3 => simp; unfold maxLen; omega
      case d4 => simp; omega
      case d5 => simp; omega
      intro v4 w4 hown4 hgrow4 _
      have hb4 : Below W1.heap.size W1 w4 := (HB2.out.alloc hz2' _).grown hgrow4 (by simp; omega) (fun j hj => (HO2.out.lt j hj).1)
      have HO4 : Hid (OwnRow 2 w4 W1.heap.size v4 (List.replicate (k + 1) (-1 : Int))) := OwnRow.of_ownsRow (n := (List.replicate k (-1 : Int)).length + 1) (by rw [List.replicate_succ']; simpa using hown4) (by simp; unfold maxLen; omega) (fun x hx => by rw [List.mem_replicate] at hx; rw [hx.2]; unfold I64; omega)
      have HB4 := Lib.hid hb4
      clear hown4 hgrow4 hb4
      go_wp2
      go_roundw
      case rel => exact ⟨k + 1, by omega, by go_num, HO4.out, HB4.out⟩
      case measure => simp [intOf]; omega
    · obtain rfl : k = L.length := by omega
      obtain ⟨g, cap, rfl, hgB, hgl, hc1, hc2⟩ := HO2.out.posB (by simp; omega)
      rw [List.length_replicate] at HO2 hc1 ⊢
      have hX2 := Lib.hid (HX.out.keep HB2.out)
      go_wp2_with fail
      refine (l1Has_any _ _ _ _ hX2.out).mono ?_
      rintro e w' ⟨rfl, rfl⟩
      by_cases hin : inS xs u = true
      · rw [show hasB xs (u : Int) = true from hin]
        have hI0 : I64 0 := by unfold I64; omega
        obtain ⟨hput, hcu, hfu, _⟩ := HO2.out.laidAt' (by simp) hu hI0
        have HP := Lib.hid hput
        have HIN := Lib.hid hin
        clear hput hin
        have HSK : Hid (Seek W1 g cap L.length ((List.replicate L.length (-1 : Int)).set u 0) [(u : Int)] (.slice (some ⟨w2.heap.size, 0, none⟩) 1 1) ((w2.setCell ⟨g, u, none⟩ (.int .i64 0)).alloc (.cells #[.int .i64 (u : Int)] 2))) := by
          have hzz : (w2.setCell ⟨g, u, none⟩ (.int .i64 0)).heap.size = w2.heap.size := by simp
          have hbA : Below (w2.setCell ⟨g, u, none⟩ (.int .i64 0)).heap.size (w2.setCell ⟨g, u, none⟩ (.int .i64 0)) ((w2.setCell ⟨g, u, none⟩ (.int .i64 0)).alloc (.cells #[.int .i64 (u : Int)] 2)) := (Below.refl _ _).alloc (Nat.le_refl _) _
          refine ⟨HP.out.keep hbA, ?_, ?_, (HB2.out.setCell (p := ⟨g, u, none⟩) hgB _).trans (hbA.mono (by rw [hzz]; exact hz2'))⟩
          · have h0 := World.ownsRow_lit (w2.setCell ⟨g, u, none⟩ (.int .i64 0)) #[.int .i64 (u : Int)] (e := 2) (size := 1) 1 (base := W1.heap.size) (by rw [hzz]; exact hz2') (by unfold maxLen; omega) rfl
            rw [hzz] at h0
            exact OwnRow.of_ownsRow (xs := [(u : Int)]) (n := 1) h0 (by simp; unfold maxLen; omega) (fun x hx => by simp at hx; subst hx; unfold I64; omega)
          · intro k hk; simp [Value.ownBlock] at hk; omega
        have HBF : Hid (Bfs (nearB L) (inS xs) u L.length ((List.replicate L.length (-1 : Int)).set u 0) [(u : Int)] 0) := Bfs.start hu HIN.out
        clear HP HIN
        go_wp2
        clear hcu hfu
        go_loopw [9, 10] (fun m i wr => ∃ (out met : List Int) (j : Nat), i = .int .i64 j ∧ Seek W1 g cap L.length out met m wr ∧ Bfs (nearB L) (inS xs) u L.length out met j) (fun _ i _ => 16 - (intOf i).toNat)
        case atStart => exact ⟨_, _, 0, rfl, HSK.out, HBF.out⟩
        case round =>
          rename World => w3
          obtain ⟨out, met, j, rfl, hsk, hbf⟩ := hrel
          have hml := hbf.met_le
          obtain ⟨am, cm, em⟩ := hsk.met.row.slice
          subst em
          have HSK := Lib.hid hsk
          have HBF := Lib.hid hbf
          by_cases hjl : j < met.length
          · have hmr := hbf.at_lt hjl
            obtain ⟨m, hm⟩ : ∃ m : Nat, nth met j = (m : Int) := ⟨(nth met j).toNat, by omega⟩
            have hmn : m < L.length := by omega
            obtain ⟨gm, cm', e1, hgmB, hgml, hcm1, hcm2⟩ := hsk.met.posB (by omega)
            simp only [Value.slice.injEq, true_and] at e1
            obtain ⟨rfl, rfl⟩ := e1
            have hcj := hsk.met.cells' j hjl
            rw [hm] at hcj
            have hkb := cell_keep hsk.bel KB.out
            have hck := cell_keep hsk.bel (HC.out m hmn).1
            have hrow := (HC.out m hmn).2
            have HSET := Lib.hid (HG.out.2.1 m hmn).1
            have hrl : (nthR L m).length ≤ 16 := by have := HSET.out.len (by omega); omega
            have HM := Lib.hid hm
            have hj16 : j < 16 := by omega
            have HDR : Hid (Seek W1 g cap L.length out met (.slice (some ⟨gm, 0, none⟩) met.length cm) w3.drew) := HSK.out.later (Below.refl _ _).drew
            clear hm hsk hbf hmr
            by_cases hr0 : (nthR L m).length = 0
            · rw [hr0] at hck
              have HNX : Hid (Bfs (nearB L) (inS xs) u L.length out met (j + 1)) := HBF.out.next hjl (fun x hx ha hs => by
                rw [HM.out, Int.toNat_natCast] at ha
                obtain ⟨p, hp, e⟩ := (hasB_iff _ _).1 ha
                omega)
              clear hr0 hrow hrl
              go_wp2
              go_quiet (fail)
              go_wp2_with fail
              refine wp_loop_rounds 1 ?_
              rw [rounds_succ]
              go_wp2
              go_roundw
              case rel => exact ⟨out, met, j + 1, by go_num, HSK.out.later (below_drewN (Below.refl _ _) _), HNX.out⟩
              case measure => simp [intOf]; omega
            obtain ⟨b1, o1, c1, e1, m1, m2, hcr⟩ := hrow.pos (by omega)
            simp only [Value.slice.injEq, true_and] at e1
            obtain ⟨eA, eC⟩ := e1
            rw [eA, eC] at hck
            have HCRR := Lib.hid hcr
            clear eA eC hr0 hrow hcr
            go_wp2
            go_quiet (fail)
            clear hcj hck hkb
            go_wp2_with fail
            go_loopw [9, 12] (fun mv kv wr => ∃ (out met : List Int) (q : Nat), q ≤ (nthR L m).length ∧ kv = .int .i64 q ∧ Seek W1 g cap L.length out met mv wr ∧ Bfs (nearB L) (inS xs) u L.length out met j ∧ j < met.length ∧ nth met j = (m : Int) ∧ ∀ p, p < q → inS xs (nth (nthR L m) p).toNat = true → 0 ≤ nth out (nth (nthR L m) p).toNat) (fun _ kv _ => (nthR L m).length - (intOf kv).toNat)
            case atStart => exact ⟨out, met, 0, Nat.zero_le _, rfl, HSK.out.later (below_drewN (Below.refl _ _) _), HBF.out, hjl, HM.out, fun p hp => absurd hp (by omega)⟩
            case round =>
              clear HSK HBF HM HDR hjl hml hgmB hgml hcm1 hcm2
              rename World => w4
              obtain ⟨out, met, q, hq, rfl, hsk, hbf, hjl, hm, hdone⟩ := hrel
              by_cases hql : q < (nthR L m).length
              · have hst := HSET.out q hql
                obtain ⟨x, hx⟩ : ∃ x : Nat, nth (nthR L m) q = (x : Int) := ⟨(nth (nthR L m) q).toNat, by have := hst.1; omega⟩
                have hxn : x < L.length := by have := hst.2.1; omega
                have hcq := cell_keep hsk.bel (HCRR.out q hql)
                rw [hx] at hcq
                have HCR : Hid (W1.cell? ⟨b1, o1 + q, none⟩ = some (.int .i64 (x : Int))) := by have := HCRR.out q hql; rwa [hx] at this
                have hlen := hbf.len
                have hox := hsk.out.cells' x (by omega)
                have hIo := hsk.out.1 _ (nth_mem (xs := out) (i := x) (by omega))
                have hnear : nearB L m x = true := by show hasB _ _ = true; rw [hasB_iff]; exact ⟨q, hql, hx⟩
                have HX4 := Lib.hid (HX.out.keep hsk.bel)
                have hml := hbf.met_le
                have HSK := Lib.hid hsk
                have HBF := Lib.hid hbf
                have HDN := Lib.hid hdone
                have HXX := Lib.hid hx
                have HM := Lib.hid hm
                have HNR := Lib.hid hnear
                by_cases hneg : nth out x < 0
                · have hdn : decide (nth out x < 0) = true := by simpa using hneg
                  by_cases hxs : inS xs x = true
                  · obtain ⟨gm, cm', e1, hgmB, hgml, hcm1, hcm2⟩ := hsk.met.posB (by omega)
                    subst e1
                    have hcj := hsk.met.cells' j hjl
                    rw [hm] at hcj
                    have hmn' : m < out.length := by omega
                    have hom := hsk.out.cells' m hmn'
                    have hd0 := hbf.out_nonneg hjl
                    rw [hm, Int.toNat_natCast] at hd0
                    have hd1 : nth out m < (L.length : Int) := by
                      have := atD_lt hS.out (hbf.dist m hmn hd0)
                      omega
                    have hI1 : I64 (nth out m + 1) := by unfold I64; omega
                    obtain ⟨_, _, hfx, _⟩ := hsk.out.laidAt' hlen hxn hI1
                    have HPUT := Lib.hid (hsk.put hlen hxn hI1)
                    have HADD : Hid (Bfs (nearB L) (inS xs) u L.length (out.set x (nth out m + 1)) (met ++ [(x : Int)]) j) := by
                      have := hbf.add hS.out hjl hxn (by rw [hm, Int.toNat_natCast]; exact hnear) hxs hneg
                      rwa [hm, Int.toNat_natCast] at this
                    have hw1 : IntKind.i64.wrap (nth out m + 1) = nth out m + 1 := IntWalk.i64_in _ (by omega)
                    clear hsk hbf hdone hx hm hnear hst hneg
                    go_wp2_with (go_at_call 72; refine (l1Has_any _ _ _ _ HX4.out).mono ?_; rintro e w' ⟨rfl, rfl⟩; rw [show hasB xs (x : Int) = true from hxs])
                    go_region
                    have hzz : (w4.setCell ⟨g, x, none⟩ (.int .i64 (nth out m + 1))).heap.size = w4.heap.size := by simp
                    have hcq2 : (w4.setCell ⟨g, x, none⟩ (.int .i64 (nth out m + 1))).drew.cell? ⟨b1, o1 + q, none⟩ = some (.int .i64 (x : Int)) := cell_keep (HPUT.out.later (Below.refl _ _).drew).bel (HCR.out)
                    have HS5 : Hid (Seek W1 g cap L.length (out.set x (nth out m + 1)) met (.slice (some ⟨gm, 0, none⟩) met.length cm') (w4.setCell ⟨g, x, none⟩ (.int .i64 (nth out m + 1))).drew) := HPUT.out.later (Below.refl _ _).drew
                    obtain ⟨w5, hw5⟩ : ∃ w5, (w4.setCell ⟨g, x, none⟩ (.int .i64 (nth out m + 1))).drew = w5 := ⟨_, rfl⟩
                    rw [hw5] at hcq2 HS5 ⊢
                    clear hw5 hcj hom hfx hcq hox HPUT HSK
                    go_wp2_with (at_builtin; refine wpList_append_lies _ rfl (.tmp 83) (.tmp 88) 35 rfl W1.heap.size 2 i0 (.int .i64 0) 1 8 Try.underlying35 hi hz0 hz1 hz2 rfl (by decide) _ _ _ rfl (HS5.out.met.owns.alloc _) ⟨w5.heap.size, 0, none⟩ 1 1 [.int .i64 (x : Int)] rfl rfl ?d1 ?d2 (by decide) ?d3 ?d4 ?d5 (w5.heap.size + 1) ?d6 ?_)
                    case d1 =>
                      intro j u hj
                      match j, hj with
                      | 0, hj => simp at hj; subst hj; simp [Addr.add]
                    case d2 => intro u hu; simp at hu; subst hu; rfl
                    case d3 => unfold maxLen; omega
                    case d4 => omega
                    case d5 => have := HS5.out.bel.size; simp; omega
                    case d6 => simp
                    intro g5 cap5 w6 hown6 hgrow6 hat6 hlt6
                    have HS6 : Hid (Seek W1 g cap L.length (out.set x (nth out m + 1)) (met ++ [(x : Int)]) (.slice (some ⟨g5, 0, none⟩) (met.length + 1) cap5) w6) := HS5.out.more (by unfold I64; omega) (by unfold maxLen; omega) hown6 hgrow6 (fun k hk => by
                      simp only [Value.ownBlock, Option.some.injEq] at hk hat6 ⊢
                      rcases hat6 with h | h
                      · left; omega
                      · right; omega)
                    clear hown6 hgrow6 hat6 HS5
                    go_wp2
                    go_roundw
                    case rel =>
                      refine ⟨_, _, q + 1, by omega, by go_num, HS6.out, HADD.out, by simp; omega, by rw [nth_append_lt hjl]; exact HM.out, fun p hp hs => ?_⟩
                      rcases Nat.lt_succ_iff_lt_or_eq.1 hp with h' | h'
                      · by_cases e : (nth (nthR L m) p).toNat = x
                        · rw [e, nth_set_same (by omega)]; omega
                        · rw [nth_set_other (fun h => e h.symm)]; exact HDN.out p h' hs
                      · subst h'; rw [HXX.out, Int.toNat_natCast, nth_set_same (by omega)]; omega
                    case measure => simp [intOf]; omega
                  · have hxs' : inS xs x = false := by simpa using hxs
                    clear hsk hbf hdone hx hm hnear hst hneg hxs
                    have HXS := Lib.hid hxs'
                    go_wp2_with (go_at_call 72; refine (l1Has_any _ _ _ _ HX4.out).mono ?_; rintro e w' ⟨rfl, rfl⟩; rw [show hasB xs (x : Int) = false from hxs'])
                    go_roundw
                    case rel =>
                      refine ⟨out, met, q + 1, by omega, by go_num, HSK.out, HBF.out, hjl, HM.out, fun p hp hs => ?_⟩
                      rcases Nat.lt_succ_iff_lt_or_eq.1 hp with h' | h'
                      · exact HDN.out p h' hs
                      · subst h'; rw [HXX.out, Int.toNat_natCast, HXS.out] at hs; cases hs
                    case measure => simp [intOf]; omega
                · have hdn : decide (nth out x < 0) = false := by simpa using hneg
                  have HNG := Lib.hid hneg
                  clear hsk hbf hdone hx hm hnear hst hneg
                  go_wp2
                  go_roundw
                  case rel =>
                    refine ⟨out, met, q + 1, by omega, by go_num, HSK.out, HBF.out, hjl, HM.out, fun p hp hs => ?_⟩
                    rcases Nat.lt_succ_iff_lt_or_eq.1 hp with h' | h'
                    · exact HDN.out p h' hs
                    · subst h'; rw [HXX.out, Int.toNat_natCast]; have := HNG.out; omega
                  case measure => simp [intOf]; omega
              · obtain rfl : q = (nthR L m).length := by omega
                have hnx := hbf.next hjl (fun x hx ha hs => by
                  rw [hm, Int.toNat_natCast] at ha
                  obtain ⟨p, hp, e⟩ := (hasB_iff _ _).1 ha
                  have := hdone p hp (by rw [e]; exact hs)
                  rw [e] at this
                  exact this)
                have HSK := Lib.hid hsk
                have HNX := Lib.hid hnx
                clear hsk hbf hdone hnx
                go_wp2
                go_roundw
                case rel => exact ⟨out, met, j + 1, by go_num, HSK.out, HNX.out⟩
                case measure => simp [intOf]; omega
          · obtain rfl : j = met.length := by have := hbf.le; omega
            have HE : Hid (distL L.length (nearB L) (inS xs) u = out) := (hbf.finish hS.out).symm
            clear hsk hbf
            go_wp2
            go_ret
            exact ⟨_, _, _, rfl, by rw [HE.out]; exact HSK.out.out.mono (by rw [HS1.out]; omega), HA.out.trans (HSK.out.bel.mono (by rw [HS1.out]; omega))⟩
      · have hin' : inS xs u = false := by simpa using hin
        rw [show hasB xs (u : Int) = false from hin']
        have HE : Hid (distL L.length (nearB L) (inS xs) u = List.replicate L.length (-1)) := distL_off _ hin'
        clear hin hin'
        go_wp2
        go_ret
        exact ⟨_, _, _, rfl, by rw [HE.out]; exact HO2.out.mono (by rw [HS1.out]; omega), HA.out.trans (HB2.out.mono (by rw [HS1.out]; omega))⟩

end Go.Proofs.Ytojbaepcflkgeaa

/- Walks: DistancesFrom, of the model. -/
namespace Go.Proofs.Ytojbaepcflkgeaa
open Go.RowKit

/-- All vertices. -/
def allS (n : Nat) (u : Nat) : Bool := inS (allL n) u
theorem allS_iff (n u : Nat) : allS n u = true ↔ u < n := by
  show hasB _ _ = true ↔ _
  rw [hasB_iff]
  constructor
  · rintro ⟨i, hi, e⟩
    rw [allL_len] at hi
    have := nth_mem (xs := allL n) (i := i) (by rw [allL_len]; exact hi)
    rw [allL_mem] at this
    obtain ⟨k, hk, e2⟩ := this
    omega
  · intro h
    obtain ⟨i, hi, e⟩ := List.getElem_of_mem ((allL_mem n (u : Int)).2 ⟨u, h, rfl⟩)
    exact ⟨i, hi, by rw [nth_eq hi]; exact e⟩
theorem allL_rng (n : Nat) : ∀ x ∈ allL n, 0 ≤ x ∧ x < (n : Int) := by
  intro x hx
  obtain ⟨i, hi, rfl⟩ := (allL_mem n x).1 hx
  omega
/-- Whether there is an answer. -/
def dfB (L : List (List Int)) (x : Int) : Bool := decide (GraphP L) && inB x 0 ((L.length : Int) - 1)
/-- What DistancesFrom answers. -/
noncomputable def dfL (L : List (List Int)) (x : Int) : List Int := if dfB L x = true then distL L.length (nearB L) (allS L.length) x.toNat else []
theorem dfL_no {L : List (List Int)} {x : Int} (h : dfB L x = false) : dfL L x = [] := by unfold dfL; rw [if_neg (by rw [h]; exact Bool.false_ne_true)]
theorem dfL_small (L : List (List Int)) (x : Int) : (dfL L x).length ≤ 1048576 := by
  unfold dfL
  split
  · rename_i h
    rw [distL_len]
    simp only [dfB, Bool.and_eq_true, decide_eq_true_iff] at h
    have := h.1.1
    omega
  · simp

theorem gaveNone {w w' : World} (h : Below w.heap.size w w') : GaveRow w [] (.returned (.slice (some ⟨w'.heap.size, 0, none⟩) 0 0)) (w'.alloc (.cells #[] 2)) :=
  ⟨0, _, 0, rfl, OwnRow.of_ownsRow (n := 0) (World.ownsRow_lit w' #[] 0 h.size (Nat.zero_le _) rfl) (Nat.zero_le _) (fun x hx => absurd hx (by simp)), h.alloc h.size _⟩

set_option maxHeartbeats 2000000 in
theorem specDistancesFrom_any (v : Value) (L : List (List Int)) (x : Int) (w : World) (h : GridAt w v L) (_hx : I64 x) : Calls Try.prog 52 #[.agg #[v], .int .i64 x] w (GaveRow w (dfL L x)) := by
  obtain ⟨a0, c0, rfl⟩ := h.slice
  have ha : Below w.heap.size w (w.alloc (.cells #[.slice a0 L.length c0] 30)) := (Below.refl _ _).alloc (Nat.le_refl _) _
  have hk := h.keep ha
  have HA := Lib.hid ha
  have HGK : Hid (∀ w', Below w.heap.size w w' → GridAt w' (.slice a0 L.length c0) L) := fun w' hb => h.keep hb
  clear ha h
  go_enter Try.func52, Try.ntmps52
  go_wp2_with fail
  refine (specGraphOk_any _ _ _ hk).mono ?_
  rintro e w1 ⟨rfl, hb1⟩
  have kb1 : w1.cell? ⟨w.heap.size, 0, none⟩ = some (.slice a0 L.length c0) := by rw [hb1.cell (by simp)]; go_simp
  have HB1 : Hid (Below w.heap.size w w1) := HA.out.trans (hb1.mono (by simp))
  clear hb1 hk HA
  by_cases hG : GraphP L
  · have hz := hG.1
    have HG := Lib.hid hG
    rw [decide_eq_true hG]
    clear hG
    go_wp2_with fail
    refine (l1There_any _ L x _ (HGK.out _ HB1.out)).mono ?_
    rintro e w2 ⟨rfl, hb2⟩
    have kb2 := cell_keep hb2 kb1
    have HB2 : Hid (Below w.heap.size w w2) := HB1.out.trans (hb2.mono HB1.out.size)
    clear hb2 kb1 HB1
    by_cases hin : inB x 0 ((L.length : Int) - 1) = true
    · have hxx : 0 ≤ x ∧ x ≤ (L.length : Int) - 1 := by simpa [inB] using hin
      have HE : Hid (dfL L x = distL L.length (nearB L) (allS L.length) x.toNat) := by show _ = _; unfold dfL dfB; rw [decide_eq_true HG.out, hin]; rfl
      rw [hin]
      obtain ⟨y, rfl⟩ : ∃ y : Nat, x = (y : Int) := ⟨x.toNat, by omega⟩
      have hy : y < L.length := by omega
      clear hin hxx
      go_wp2_with fail
      go_region_held3 (fun wx => wx.cell? ⟨w.heap.size, 0, none⟩ = some (.slice a0 L.length c0)) (first | exact kb2 | exact kba | exact kbb | exact kbc)
        (first
          | (go_at_call 51; refine (l1Size_any _ L _ (HGK.out _ HB2.out.drew)).mono ?_; rintro e wa ⟨rfl, hba⟩; have kba := cell_keep hba (cell_keep (Below.refl _ _).drew kb2); have HBA : Hid (Below w.heap.size w wa) := HB2.out.drew.trans (hba.mono HB2.out.size); clear hba)
          | (go_at_call 56; refine (l1All_any L.length _ hz.2).mono ?_; rintro e wb ⟨nb, ab, cb, rfl, hob, hbb⟩; have kbb := cell_keep hbb kba; have HBB : Hid (Below w.heap.size w wb) := HBA.out.trans (hbb.mono HBA.out.size); have HOB := Lib.hid hob; clear hob hbb)
          | (go_at_call 87; refine (l3From_any _ _ L y (allL L.length) _ (HGK.out _ HBB.out) HG.out hy HOB.out.row (allL_rng _)).mono ?_; rintro e wc ⟨nc, ac, cc, rfl, hoc, hbc⟩; have kbc := cell_keep hbc kbb; have HP : Hid (GaveRow w (dfL L y) (.returned (.slice ac nc cc)) wc) := (by rw [HE.out]; exact ⟨_, _, _, rfl, hoc.mono HBB.out.size, HBB.out.trans (hbc.mono HBB.out.size)⟩); clear hoc hbc))
      go_wp2
      go_ret
      exact HP.out
    · have hin' : inB x 0 ((L.length : Int) - 1) = false := by simpa using hin
      have HE : Hid (dfL L x = []) := dfL_no (by unfold dfB; rw [hin']; simp)
      rw [hin']
      clear hin hin'
      go_wp2
      go_ret
      rw [HE.out]
      exact gaveNone HB2.out
  · have HE : Hid (dfL L x = []) := dfL_no (by unfold dfB; rw [decide_eq_false hG]; simp)
    rw [decide_eq_false hG]
    clear hG
    go_wp2
    go_ret
    rw [HE.out]
    exact gaveNone HB1.out

end Go.Proofs.Ytojbaepcflkgeaa
