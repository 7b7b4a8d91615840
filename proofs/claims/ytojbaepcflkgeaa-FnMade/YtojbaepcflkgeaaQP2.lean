/- The texts P2, P3, P4, P5, joined. -/
import Derived.Test.YtojbaepcflkgeaaQN3
import Derived.Test.YtojbaepcflkgeaaQLater
import Derived.IntWalk

/- Walks: two graphs beside each other: words; rows renumbered. -/
namespace Go.Proofs.Ytojbaepcflkgeaa
open Go.RowKit

/-- The boxes of a function of two graphs: theirs and its result's. -/
structure Three (w0 : World) (v1 v2 : Value) (w : World) : Prop where
  one : BoxAt w w0.heap.size v1
  two : BoxAt w (w0.heap.size + 1) v2
  res : BoxAt w (w0.heap.size + 1 + 1) (.slice none 0 0)
  bel : Below w0.heap.size w0 w
theorem Three.start (w : World) (v1 v2 : Value) : Three w v1 v2 (((w.alloc (.cells #[v1] 30)).alloc (.cells #[v2] 30)).alloc (.cells #[.slice none 0 0] 30)) := by
  have h1 := BoxAt.new w v1 30
  have h2 := BoxAt.new (w.alloc (.cells #[v1] 30)) v2 30
  have h3 := BoxAt.new ((w.alloc (.cells #[v1] 30)).alloc (.cells #[v2] 30)) (.slice none 0 0) 30
  rw [size_alloc1] at h2
  rw [size_alloc1, size_alloc1] at h3
  exact ⟨(h1.keep ((Below.refl _ _).alloc (Nat.le_refl _) _)).keep ((Below.refl _ _).alloc (Nat.le_refl _) _), h2.keep ((Below.refl _ _).alloc (Nat.le_refl _) _), h3, (((Below.refl _ _).alloc (Nat.le_refl _) _).alloc (by simp) _).alloc (by rw [size_alloc1, size_alloc1]; omega) _⟩
theorem Three.keep {w0 : World} {v1 v2 : Value} {w w' : World} (h : Three w0 v1 v2 w) (hb : Below w.heap.size w w') : Three w0 v1 v2 w' :=
  ⟨h.one.keep hb, h.two.keep hb, h.res.keep hb, h.bel.trans (hb.mono h.bel.size)⟩
theorem Three.keepB {w0 : World} {v1 v2 : Value} {w w' : World} {B : Nat} (h : Three w0 v1 v2 w) (hb : Below B w w') (hB : w0.heap.size + 1 + 1 < B) : Three w0 v1 v2 w' :=
  ⟨h.one.keepB hb (by omega), h.two.keepB hb (by omega), h.res.keepB hb hB, h.bel.trans (hb.mono (by omega))⟩
theorem Three.put {T : TypeId} {w0 : World} {v1 v2 : Value} {w w' : World} {o : Obj} {n : Nat} {M : Nat → Nat} (h : Three w0 v1 v2 w) (hp : NetPut T (w.alloc o) w' w.heap.size n M) : Three w0 v1 v2 w' := h.keep hp.since
theorem Three.putG {T : TypeId} {w0 : World} {v1 v2 : Value} {w w' : World} {g n : Nat} {M : Nat → Nat} (h : Three w0 v1 v2 w) (hp : NetPut T w w' g n M) (hg : w0.heap.size + 1 + 1 < g) : Three w0 v1 v2 w' := h.keepB hp.below hg
theorem Three.setOther {w0 : World} {v1 v2 : Value} {w : World} (h : Three w0 v1 v2 w) {a : Addr} (ha : w0.heap.size + 1 + 1 < a.block) (u : Value) : Three w0 v1 v2 (w.setCell a u) :=
  ⟨h.one.setOther (by omega) _, h.two.setOther (by omega) _, h.res.setOther (by omega) _, h.bel.setCell (by omega) _⟩
theorem Three.lt {w0 : World} {v1 v2 : Value} {w : World} (h : Three w0 v1 v2 w) : w0.heap.size + 1 + 1 < w.heap.size := h.res.lt
theorem Three.q0 {w0 : World} {v1 v2 : Value} {w : World} (h : Three w0 v1 v2 w) (u : Value) : (w.setCell ⟨w0.heap.size + 1 + 1, 0, none⟩ u).cell? ⟨w0.heap.size + 1 + 1, 0, none⟩ = some u := cell_set_same _ h.res.1
theorem Three.yes {w0 : World} {v1 v2 : Value} {w : World} (h : Three w0 v1 v2 w) {R : List (List Int)} {B m c : Nat} {a : Option Addr} {ok : Bool} (ho : OwnGrid 2 35 w B (.slice a m c) R) (hB : w0.heap.size + 1 + 1 < B) (hok : ok = true) :
    GaveGB w0 R ok (.returned (.tuple #[.agg #[.slice a m c], .bool true])) (w.setCell ⟨w0.heap.size + 1 + 1, 0, none⟩ (.slice a m c)) :=
  ⟨m, a, c, by rw [hok], (ho.setBelow hB _).mono (by omega), h.bel.setCell (by simp; omega) _⟩
theorem Three.no {w0 : World} {v1 v2 : Value} {w : World} (h : Three w0 v1 v2 w) {R : List (List Int)} {ok : Bool} (hR : R = []) (hok : ok = false) :
    GaveGB w0 R ok (.returned (.tuple #[.agg #[.slice none 0 0], .bool false])) (w.setCell ⟨w0.heap.size + 1 + 1, 0, none⟩ (.slice none 0 0)) := by
  rw [hR, hok]
  exact GaveGB.no (h.bel.setCell (by show w0.heap.size ≤ w0.heap.size + 1 + 1; omega) _)

/-- .. at work on a copy. -/
structure WorkT (w0 : World) (v1 v2 : Value) (bo B g n cg : Nat) (L : List (List Int)) (w : World) : Prop where
  three : Three w0 v1 v2 w
  box : BoxT 30 w bo (.slice (some ⟨g, 0, none⟩) n cg)
  own : OwnGrid 2 35 w B (.slice (some ⟨g, 0, none⟩) n cg) L
  low : w0.heap.size + 1 + 1 < B
theorem WorkT.keep {w0 : World} {v1 v2 : Value} {bo B g n cg : Nat} {L : List (List Int)} {w w' : World} (h : WorkT w0 v1 v2 bo B g n cg L w) (hb : Below w.heap.size w w') : WorkT w0 v1 v2 bo B g n cg L w' :=
  ⟨h.three.keep hb, h.box.keep hb, h.own.keep hb, h.low⟩
theorem WorkT.ne {w0 : World} {v1 v2 : Value} {bo B g n cg : Nat} {L : List (List Int)} {w : World} (h : WorkT w0 v1 v2 bo B g n cg L w) : bo ≠ g := by
  obtain ⟨cur, hcur⟩ := h.own.blkT
  intro e
  rw [← e] at hcur
  have hbb : w.heap[bo]? = _ := h.box
  rw [hcur] at hbb
  simp at hbb
theorem WorkT.start {w0 w w2 : World} {v1 v2 : Value} {a2 : Option Addr} {n2 c2 : Nat} {L : List (List Int)} (ht : Three w0 v1 v2 w) (hb : Below w.heap.size w w2) (ho : OwnGrid 2 35 w2 w.heap.size (.slice a2 n2 c2) L) (hl : 0 < L.length) :
    n2 = L.length ∧ ∃ g, a2 = some ⟨g, 0, none⟩ ∧ WorkT w0 v1 v2 w2.heap.size w.heap.size g L.length c2 L (w2.alloc (.cells #[.slice (some ⟨g, 0, none⟩) L.length c2] 30)) := by
  obtain ⟨g, cap, eg, hB, hgs, _⟩ := ho.place hl
  simp only [Value.slice.injEq] at eg
  obtain ⟨rfl, rfl, rfl⟩ := eg
  have hbw : Below w2.heap.size w2 (w2.alloc (.cells #[.slice (some ⟨g, 0, none⟩) L.length c2] 30)) := (Below.refl _ _).alloc (Nat.le_refl _) _
  exact ⟨rfl, g, rfl, (ht.keep hb).keep hbw, BoxT.new _ _ _, ho.keep hbw, ht.lt⟩
theorem WorkT.done {w0 : World} {v1 v2 : Value} {bo B g n cg : Nat} {L : List (List Int)} {w : World} (h : WorkT w0 v1 v2 bo B g n cg L w) {ok : Bool} (hok : ok = true) : GaveGB w0 L ok (.returned (.tuple #[.agg #[.slice (some ⟨g, 0, none⟩) n cg], .bool true])) (w.setCell ⟨w0.heap.size + 1 + 1, 0, none⟩ (.slice (some ⟨g, 0, none⟩) n cg)) :=
  h.three.yes h.own h.low hok
theorem WorkT.grow {w0 w w2 w7 : World} {v1 v2 : Value} {bo B g n cg g7 cap7 : Nat} {L : List (List Int)} {xs : List Int} {rv : Value} {R : Nat → Value} (h : WorkT w0 v1 v2 bo B g n cg L w) (hbo2 : w0.heap.size + 1 + 1 < bo) (hn : L.length = n) (hl : n ≤ 1000) (hb : Below w.heap.size w w2) (hr : OwnRow 2 w2 w.heap.size rv xs)
    (hR : w.ownsRow B 35 1 (.slice (some ⟨g, 0, none⟩) n cg) n ((List.range n).map R)) (hRr : ∀ i, i < n → OwnRow 2 w B (R i) (nthR L i)) (hRd : ∀ i j q, i < j → j < n → (R i).ownBlock = some q → (R j).ownBlock ≠ some q)
    (hown : w7.ownsRow B 35 1 (.slice (some ⟨g7, 0, none⟩) (n + 1) cap7) (n + 1) ((List.range n).map R ++ [rv])) (hgrow : (w2.alloc (.cells #[rv] 35)).grownBy w7 (Value.slice (some ⟨g, 0, none⟩) n cg).ownBlock) :
    BoxT 30 w7 bo (.slice (some ⟨g, 0, none⟩) n cg) ∧ WorkT w0 v1 v2 bo B g7 (n + 1) cap7 (L ++ [xs]) (w7.setCell ⟨bo, 0, none⟩ (.slice (some ⟨g7, 0, none⟩) (n + 1) cap7)) := by
  subst hn
  have hBs : B ≤ w.heap.size := by
    rcases hR.2 with ⟨e, _⟩ | ⟨g', cap', cur', e, hg, hh, _⟩
    · cases e
    · obtain ⟨hlt, _⟩ := Array.getElem?_eq_some_iff.1 hh
      omega
  have hlow := h.low
  have hW : Below w.heap.size w (w2.alloc (.cells #[rv] 35)) := hb.alloc hb.size _
  have hbw : Below B w w7 := (hW.mono hBs).grown hgrow (by rw [size_alloc1]; have := hb.size; omega) (fun j hj => (hR.lt j hj).1)
  have hog : OwnGrid 2 35 w7 B (.slice (some ⟨g7, 0, none⟩) (L.length + 1) cap7) (L ++ [xs]) := by
    refine OwnGrid.snoc (w0 := w) (w := w2.alloc (.cells #[rv] 35)) (rv := rv) (n := L.length) (v := .slice (some ⟨g, 0, none⟩) L.length cg) (by decide) hW hBs ?_ rfl (by unfold maxLen; omega) R hR hRr hRd hown hgrow
    exact hr.keep ((Below.refl _ _).alloc (Nat.le_refl _) _)
  have hbt : BoxT 30 w7 bo (.slice (some ⟨g, 0, none⟩) L.length cg) := by
    unfold BoxT
    have hlt := h.box.lt
    rw [hgrow.block bo (by rw [size_alloc1]; have := hb.size; omega) (fun e => h.ne (by simpa [Value.ownBlock] using e)), hW.block bo hlt]
    exact h.box
  exact ⟨hbt, (h.three.keepB hbw hlow).setOther hbo2 _, hbt.set _, hog.setType hbt (by decide) (by decide) 0 _, hlow⟩

/-- A row renumbered from n on. -/
def shR (n : Nat) (xs : List Int) : List Int := xs.map (fun z => z + (n : Int))
theorem shR_len (n : Nat) (xs : List Int) : (shR n xs).length = xs.length := by simp [shR]
theorem shR_nth {n : Nat} {xs : List Int} {i : Nat} (hi : i < xs.length) : nth (shR n xs) i = nth xs i + (n : Int) := by simp [shR, nth, hi]
/-- .. the first k of its elements. -/
def shTo (n : Nat) (xs : List Int) (k j : Nat) : Int := if j < k then nth xs j + (n : Int) else nth xs j

end Go.Proofs.Ytojbaepcflkgeaa

/- Walks: two graphs beside each other. -/
namespace Go.Proofs.Ytojbaepcflkgeaa
open Go.RowKit

/-- The first graph, and the first k rows of the second behind it. -/
def bsR (L M : List (List Int)) (k : Nat) : List (List Int) := L ++ (M.take k).map (shR L.length)
theorem bsR_len {L M : List (List Int)} {k : Nat} (hk : k ≤ M.length) : (bsR L M k).length = L.length + k := by simp [bsR]; omega
theorem bsR_zero (L M : List (List Int)) : bsR L M 0 = L := by simp [bsR]
theorem bsR_succ {L M : List (List Int)} {k : Nat} (hk : k < M.length) : bsR L M (k + 1) = bsR L M k ++ [shR L.length (nthR M k)] := by
  unfold bsR
  rw [take_snocR hk, List.map_append, List.append_assoc]
  rfl
/-- May they stand beside each other? -/
def bsB (L M : List (List Int)) : Bool := decide (GraphP L) && decide (GraphP M) && decide (L.length + M.length ≤ 16)
theorem bsB_yes {L M : List (List Int)} (h : bsB L M = true) : GraphP L ∧ GraphP M ∧ L.length + M.length ≤ 16 := by
  unfold bsB at h
  simp at h
  exact ⟨h.1.1, h.1.2, h.2⟩
def bsL (L M : List (List Int)) : List (List Int) := if bsB L M = true then bsR L M M.length else []
theorem bsL_no {L M : List (List Int)} (h : bsB L M = false) : bsL L M = [] := by rw [bsL, h]; rfl
theorem bsR_small {L M : List (List Int)} (h1 : GraphP L) (h2 : GraphP M) (h : L.length + M.length ≤ 16) : Small (bsR L M M.length) := by
  refine ⟨by rw [bsR_len (Nat.le_refl _)]; omega, fun i hi => ?_⟩
  have hmem := nthR_mem hi
  generalize nthR (bsR L M M.length) i = r0 at hmem ⊢
  unfold bsR at hmem
  rw [List.take_length] at hmem
  rcases List.mem_append.1 hmem with hm | hm
  · obtain ⟨j, hj, e⟩ := List.mem_iff_getElem.1 hm
    have := row_small h1 hj
    rw [nthR_eq hj, e] at this
    omega
  · obtain ⟨r, hr, e⟩ := List.mem_map.1 hm
    obtain ⟨j, hj, e2⟩ := List.mem_iff_getElem.1 hr
    have := row_small h2 hj
    rw [nthR_eq hj, e2] at this
    rw [← e, shR_len]
    omega
theorem bsL_small (L M : List (List Int)) : Small (bsL L M) := by
  unfold bsL
  split
  · rename_i h
    obtain ⟨h1, h2, h3⟩ := bsB_yes h
    exact bsR_small h1 h2 h3
  · exact ⟨by simp, fun i hi => absurd hi (by simp)⟩
theorem row_range {M : List (List Int)} (hG : GraphP M) {k : Nat} (hk : k < M.length) : ∀ i, i < (nthR M k).length → 0 ≤ nth (nthR M k) i ∧ nth (nthR M k) i ≤ 1000 := by
  intro i hi
  have := (hG.2.1 k hk).1 i hi
  have hz := hG.1
  exact ⟨this.1, by have := this.2.1; omega⟩
theorem ownsRow_keep {w w' : World} {B : Nat} {T : TypeId} {v : Value} {n : Nat} {xs : List Value} (h : w.ownsRow B T 1 v n xs) (hb : Below w.heap.size w w') : w'.ownsRow B T 1 v n xs :=
  ⟨h.1, h.2.imp (fun h => h) (fun ⟨g, cap, cur, e, hgB, hh, r⟩ => ⟨g, cap, cur, e, hgB, by rw [hb.block g (Array.getElem?_eq_some_iff.1 hh).1]; exact hh, r⟩)⟩
theorem shR_take {n : Nat} {xs : List Int} {q : Nat} (hq : q < xs.length) : shR n (xs.take (q + 1)) = shR n (xs.take q) ++ [nth xs q + (n : Int)] := by
  rw [take_snoc hq]; simp [shR]

set_option maxHeartbeats 3200000 in
set_option maxRecDepth 100000 in
theorem l2Beside_any (v1 v2 : Value) (L M : List (List Int)) (w : World) (h1 : GridAt w v1 L) (h2 : GridAt w v2 M) (hG1 : GraphP L) (hG2 : GraphP M) (hs : L.length + M.length ≤ 16) : Calls Try.prog 135 #[.agg #[v1], .agg #[v2]] w (GaveGraph w (bsR L M M.length)) := by
  obtain ⟨i0, hi, hz0, hz1, hz2⟩ := info_parts Try.infoR
  obtain ⟨j0, hj, hy0, hy1, hy2⟩ := info_parts Try.infoI
  obtain ⟨a1, c1, rfl⟩ := h1.slice
  obtain ⟨a2, c2, rfl⟩ := h2.slice
  have hzL := hG1.1
  have hzM := hG2.1
  have T0 := Lib.hid (Three.start w (.slice a1 L.length c1) (.slice a2 M.length c2))
  have HK1 : Hid (∀ w', Below w.heap.size w w' → GridAt w' (.slice a1 L.length c1) L) := fun w' hb => h1.keep hb
  have HK2 : Hid (∀ w', Below w.heap.size w w' → GridAt w' (.slice a2 M.length c2) M) := fun w' hb => h2.keep hb
  have HG1 := Lib.hid hG1
  have HG2 := Lib.hid hG2
  clear h1 h2 hG1 hG2
  go_enter Try.func135, Try.ntmps135
  go_wp2_with fail
  refine (l1Size_any _ L _ (HK1.out _ T0.out.bel)).mono ?_
  rintro e w1 ⟨rfl, hb1⟩
  have T1 := Lib.hid (T0.out.keep hb1)
  have kb1 := T1.out.one.1
  clear hb1 T0
  go_wp2_with fail
  refine (l1CopyGraph_any _ L _ (HK1.out _ T1.out.bel) (graph_small HG1.out)).mono ?_
  rintro e w2 ⟨n2, ag, cg, rfl, ho2, hb2⟩
  obtain ⟨rfl, g, rfl, hwk⟩ := WorkT.start T1.out hb2 ho2 (by omega)
  have hbo : w.heap.size + 1 + 1 < w2.heap.size := Nat.lt_of_lt_of_le T1.out.lt hb2.size
  have HWK0 : Hid (WorkT w (.slice a1 L.length c1) (.slice a2 M.length c2) w2.heap.size w1.heap.size g (L.length + 0) cg (bsR L M 0) (w2.alloc (.cells #[.slice (some ⟨g, 0, none⟩) L.length cg] 30))) := by
    rw [bsR_zero]; exact hwk
  clear hb2 ho2 kb1 hwk
  go_wp2_with fail
  generalize hw3 : (w2.alloc (.cells #[.slice (some ⟨g, 0, none⟩) L.length cg] 30)) = w3 at HWK0 ⊢
  clear hw3
  go_loopw [7] (fun i wr => ∃ k : Nat, k ≤ M.length ∧ i = .int .i64 k ∧ ∃ g cg, WorkT w (.slice a1 L.length c1) (.slice a2 M.length c2) w2.heap.size w1.heap.size g (L.length + k) cg (bsR L M k) wr) (fun i _ => M.length - (intOf i).toNat)
  case atStart => exact ⟨0, Nat.zero_le _, rfl, g, cg, HWK0.out⟩
  case round =>
    obtain ⟨k, hk, rfl, g, cg, hw⟩ := hrel
    have HWK := Lib.hid hw
    have kb := hw.three.two.1
    clear hw
    go_wp2_with fail
    refine (l1Size_any _ M _ (HK2.out _ HWK.out.three.bel)).mono ?_
    rintro e w4 ⟨rfl, hb4⟩
    have HW4 := Lib.hid (HWK.out.keep hb4)
    clear hb4 HWK kb
    by_cases hlt : k < M.length
    · obtain ⟨bg, og, cb, A, C, eg, lg1, lg2, hcg⟩ := (HK2.out _ (Below.refl _ _)).pos (by omega)
      simp only [Value.slice.injEq, true_and] at eg
      obtain ⟨rfl, rfl⟩ := eg
      have HKB : Hid (∀ w', Below w.heap.size w w' → w'.cell? ⟨bg, og + k, none⟩ = some (.slice (A k) (nthR M k).length (C k))) := fun w' hb => cell_keep hb (hcg k hlt).1
      have HRB : Hid (∀ w', Below w.heap.size w w' → RowAt w' (.slice (A k) (nthR M k).length (C k)) (nthR M k)) := fun w' hb => (hcg k hlt).2.keep hb
      have hown0 : (w4.alloc (.cells #[] 2)).ownsRow w4.heap.size 2 1 (.slice (some ⟨w4.heap.size, 0, none⟩) 0 0) 0 [] := World.ownsRow_lit w4 #[] 0 (Nat.le_refl _) (Nat.zero_le _) rfl
      have HO0 := Lib.hid hown0
      have hly := row_small HG2.out hlt
      have HRR := Lib.hid (row_range HG2.out hlt)
      have hltI : (k : Int) < (M.length : Int) := by omega
      clear hown0 hcg
      go_wp2_with fail
      go_loopw [8, 9] (fun s i wr => ∃ q : Nat, q ≤ (nthR M k).length ∧ i = .int .i64 q ∧ wr.ownsRow w4.heap.size 2 1 s (shR L.length ((nthR M k).take q)).length ((shR L.length ((nthR M k).take q)).map (Value.int .i64)) ∧ Below w4.heap.size w4 wr) (fun _ i _ => (nthR M k).length - (intOf i).toNat)
      case atStart => exact ⟨0, Nat.zero_le _, rfl, HO0.out, (Below.refl _ _).alloc (Nat.le_refl _) _⟩
      case round =>
        rename World => w5
        obtain ⟨q, hq, rfl, ho, hb⟩ := hrel
        have HO := Lib.hid ho
        have HB := Lib.hid hb
        have HW5 := Lib.hid (HW4.out.keep hb)
        have kb5 := HW5.out.three.two.1
        have kr5 := HKB.out _ HW5.out.three.bel
        have hz5 : w4.heap.size ≤ w5.heap.size := hb.size
        have HLL : Hid ((shR L.length ((nthR M k).take q)).length = q) := by show _ = _; rw [shR_len, List.length_take]; omega
        clear ho hb
        by_cases hql : q < (nthR M k).length
        · obtain ⟨b7, o7, c7, e7, l71, l72, hc7⟩ := (HRB.out _ HW5.out.three.bel).pos (by omega)
          simp only [Value.slice.injEq, true_and] at e7
          obtain ⟨hAb, hCb⟩ := e7
          have hck := hc7 q hql
          rw [hAb] at kr5
          have hr0 := HRR.out q hql
          obtain ⟨hr1, hr2⟩ := hr0
          have HTK := Lib.hid (shR_take (n := L.length) hql)
          clear hc7 hAb hCb
          go_wp2_with (at_builtin; refine wpList_append_own _ rfl (.tmp 31) (.tmp 42) 35 rfl w4.heap.size 2 j0 (.int .i64 0) 1 8 Try.underlying35 hj hy0 hy1 hy2 rfl (by decide) _ _ _ rfl (HO.out.alloc _) ⟨w5.heap.size, 0, none⟩ 1 1 [.int .i64 ((L.length : Int) + nth (nthR M k) q)] rfl rfl ?d1 ?d2 ?d3 ?d4 ?d5 ?_)
          case d1 =>
            intro j u hj
            match j, hj with
            | 0, hj => simp at hj; subst hj; simp [Addr.add]
          case d2 => intro u hu; simp at hu; subst hu; rfl
          case d3 => rw [HLL.out]; unfold maxLen; omega
          case d4 => rw [HLL.out]; omega
          case d5 => simp; omega
          intro v6 w6 hown6 hgrow6 _
          have hb6 : Below w4.heap.size w4 w6 := (HB.out.alloc hz5 _).grown hgrow6 (by simp; omega) (fun j hj => (HO.out.lt j hj).1)
          have HO6 := Lib.hid hown6
          have HB6 := Lib.hid hb6
          clear hown6 hgrow6 hb6 hck kr5 kb5
          go_wp2
          go_roundw
          case rel =>
            refine ⟨q + 1, by omega, by go_num, ?_, HB6.out⟩
            rw [HTK.out, Int.add_comm (nth (nthR M k) q)]
            simpa using HO6.out
          case measure => simp [intOf]; omega
        · obtain rfl : q = (nthR M k).length := by omega
          have hro : OwnRow 2 w5 w4.heap.size _ (shR L.length ((nthR M k).take (nthR M k).length)) := OwnRow.of_ownsRow (n := (shR L.length ((nthR M k).take (nthR M k).length)).length) HO.out (by rw [HLL.out]; unfold maxLen; omega) (fun z hz => by
            rw [List.take_length] at hz
            obtain ⟨j, hj, rfl⟩ := List.mem_iff_getElem.1 hz
            rw [shR_len] at hj
            have e := shR_nth (n := L.length) hj
            rw [nth_eq (by rw [shR_len]; exact hj)] at e
            rw [e]
            have := HRR.out j hj
            unfold I64; omega)
          rw [List.take_length] at hro
          obtain ⟨a6, c6, e6⟩ := hro.row.slice
          rw [e6] at hro ⊢
          have HRO := Lib.hid hro
          obtain ⟨R, hR, hRr, hRd⟩ := HW4.out.own.owns
          rw [bsR_len hk] at hR hRr hRd
          have HR := Lib.hid hR
          have HRr := Lib.hid hRr
          have HRd := Lib.hid hRd
          have HR5 := Lib.hid (ownsRow_keep hR HB.out)
          have k65 := HW5.out.box.box.1
          have HBS : Hid (w1.heap.size ≤ w5.heap.size + 1) := by
            show _ ≤ _
            rcases hR.2 with ⟨e, _⟩ | ⟨g', cap', cur', e, hgB, hh, _⟩
            · cases e
            · obtain ⟨hlt', _⟩ := Array.getElem?_eq_some_iff.1 hh
              omega
          have HC3 : Hid (L.length + k + 1 ≤ maxLen) := by show _ ≤ _; unfold maxLen; omega
          have HC4 : Hid ((L.length + k + 1) * 24 ≤ 140737488355328) := by show _ ≤ _; omega
          obtain ⟨rl, hrl⟩ : ∃ rl, rl = (shR L.length (nthR M k)).length := ⟨_, rfl⟩
          rw [← hrl] at HRO ⊢
          clear hro e6 hR hRr hRd hrl
          go_wp2_with (at_builtin; refine wpList_append_lies _ rfl (.tmp 45) (.tmp 47) 28 rfl w1.heap.size 35 i0 (.slice none 0 0) 1 24 Try.underlying28 hi hz0 hz1 hz2 rfl (by omega) (.slice (some ⟨g, 0, none⟩) (L.length + k) cg) (L.length + k) ((List.range (L.length + k)).map R) rfl (HR5.out.alloc _) ⟨w5.heap.size, 0, none⟩ 1 1 [.slice a6 rl c6] rfl rfl (World.news_of_block (heap_alloc_new _ _)) (fun u hu => by simp at hu; subst hu; rfl) Nat.one_pos HC3.out HC4.out (by rw [size_alloc1]; exact HBS.out) (w5.heap.size + 1) (size_alloc1 _ _) ?_; intro g7 cap7 w7 hown7 hgrow7 hat7 hlt7; obtain ⟨hbx7, hw7⟩ := HW4.out.grow hbo (bsR_len hk) (by omega) HB.out HRO.out HR.out HRr.out HRd.out hown7 hgrow7; have k67 := hbx7.box.1; have f67 := hbx7.box.2; have HW7 := Lib.hid hw7; clear hown7 hgrow7 hat7 hlt7 hbx7 hw7)
          clear k65
          go_roundw
          case rel => exact ⟨k + 1, by omega, by go_num, g7, cap7, by rw [bsR_succ hlt]; exact HW7.out⟩
          case measure => simp [intOf]; omega
    · obtain rfl : k = M.length := by omega
      have k6 := HW4.out.box.box.1
      have kr := HW4.out.three.res.1
      have kf := HW4.out.three.res.2
      go_wp2
      refine bodyPost_ret (v := .agg #[.slice (some ⟨g, 0, none⟩) (L.length + M.length) cg]) (by simp [results, Try.results135, go_sem, HW4.out.three.q0]) rfl ⟨_, _, cg, rfl, ?_, ?_⟩
      · exact (HW4.out.own.setBelow HW4.out.low _).mono (by have := HW4.out.low; omega)
      · exact HW4.out.three.bel.setCell (by simp; omega) _

end Go.Proofs.Ytojbaepcflkgeaa

/- Walks: two graphs beside each other: the two functions. -/
namespace Go.Proofs.Ytojbaepcflkgeaa
open Go.RowKit

set_option maxHeartbeats 3200000 in
set_option maxRecDepth 100000 in
theorem specBeside_any (v1 v2 : Value) (L M : List (List Int)) (w : World) (h1 : GridAt w v1 L) (h2 : GridAt w v2 M) : Calls Try.prog 104 #[.agg #[v1], .agg #[v2]] w (GaveGB w (bsL L M) (bsB L M)) := by
  obtain ⟨a1, c1, rfl⟩ := h1.slice
  obtain ⟨a2, c2, rfl⟩ := h2.slice
  have hl1 := h1.len
  have hl2 := h2.len
  unfold maxLen at hl1 hl2
  have T0 := Lib.hid (Three.start w (.slice a1 L.length c1) (.slice a2 M.length c2))
  have HK1 : Hid (∀ w', Below w.heap.size w w' → GridAt w' (.slice a1 L.length c1) L) := fun w' hb => h1.keep hb
  have HK2 : Hid (∀ w', Below w.heap.size w w' → GridAt w' (.slice a2 M.length c2) M) := fun w' hb => h2.keep hb
  clear h1 h2
  go_enter Try.func104, Try.ntmps104
  go_wp2_with fail
  generalize hwS : (((w.alloc (.cells #[.slice a1 L.length c1] 30)).alloc (.cells #[.slice a2 M.length c2] 30)).alloc (.cells #[.slice none 0 0] 30)) = wS at T0 ⊢
  clear hwS
  have k1 := T0.out.one.1
  have k2 := T0.out.two.1
  have kl1 := fun x : Later wS => x.cell k1
  have kl2 := fun x : Later wS => x.cell k2
  have TX : Hid (∀ x : Later wS, Three w (.slice a1 L.length c1) (.slice a2 M.length c2) x.at) := fun x => T0.out.keep x.bel
  by_cases hG1 : GraphP L
  · have hcA : Hid (∀ x : Later wS, Calls Try.prog 49 #[.agg #[.slice a1 L.length c1]] x.at fun e w5 => e = .returned (.bool true) ∧ ∃ y : Later wS, w5 = y.at) :=
      fun x => Calls.later ((specGraphOk_any _ L _ (HK1.out _ (TX.out x).bel)).mono fun _ _ ⟨h1, h2⟩ => ⟨by rw [h1, decide_eq_true hG1], h2⟩)
    have HG1 := Lib.hid hG1
    have hzL := hG1.1
    clear hG1
    by_cases hG2 : GraphP M
    · have hcB : Hid (∀ x : Later wS, Calls Try.prog 49 #[.agg #[.slice a2 M.length c2]] x.at fun e w5 => e = .returned (.bool true) ∧ ∃ y : Later wS, w5 = y.at) :=
        fun x => Calls.later ((specGraphOk_any _ M _ (HK2.out _ (TX.out x).bel)).mono fun _ _ ⟨h1, h2⟩ => ⟨by rw [h1, decide_eq_true hG2], h2⟩)
      have hcC : Hid (∀ x : Later wS, Calls Try.prog 51 #[.agg #[.slice a1 L.length c1]] x.at fun e w5 => e = .returned (.int .i64 (L.length : Int)) ∧ ∃ y : Later wS, w5 = y.at) :=
        fun x => Calls.later ((l1Size_any _ L _ (HK1.out _ (TX.out x).bel)).mono fun _ _ ⟨h1, h2⟩ => ⟨h1, h2⟩)
      have hcD : Hid (∀ x : Later wS, Calls Try.prog 51 #[.agg #[.slice a2 M.length c2]] x.at fun e w5 => e = .returned (.int .i64 (M.length : Int)) ∧ ∃ y : Later wS, w5 = y.at) :=
        fun x => Calls.later ((l1Size_any _ M _ (HK2.out _ (TX.out x).bel)).mono fun _ _ ⟨h1, h2⟩ => ⟨h1, h2⟩)
      have HG2 := Lib.hid hG2
      have hzM := hG2.1
      clear hG2
      have hwr : IntKind.i64.wrap ((L.length : Int) + (M.length : Int)) = (L.length : Int) + (M.length : Int) := IntWalk.i64_in _ (by omega)
      by_cases hs : L.length + M.length ≤ 16
      · have HI : Hid (bsB L M = true) := by show bsB L M = true; unfold bsB; rw [decide_eq_true HG1.out, decide_eq_true HG2.out, decide_eq_true hs]; rfl
        have hd : decide ((16 : Int) < (L.length : Int) + (M.length : Int)) = false := by simp; omega
        refine wp_region_later (by kernel_rfl) (by kernel_rfl) ?_
        repeat (go_big_quiet_step ((first | (go_at_call 49; first | with_reducible exact hcA.out _ | with_reducible exact hcB.out _) | (go_at_call 51; first | with_reducible exact hcC.out _ | with_reducible exact hcD.out _))))
        refine wpQuiet_nil ?_
        rintro _ ⟨x, rfl⟩
        have hT := TX.out x
        generalize x.at = w1 at hT ⊢
        have T1 := Lib.hid hT
        have k11 := hT.one.1
        have k12 := hT.two.1
        clear hwr hd kl1 kl2 k1 k2 hT hcA hcB hcC hcD
        go_wp2_with fail
        refine (l2Beside_any _ _ L M _ (HK1.out _ T1.out.bel) (HK2.out _ T1.out.bel) HG1.out HG2.out hs).mono ?_
        rintro e w2 ⟨n2, a3, c3, rfl, ho2, hb2⟩
        have T2 := Lib.hid (T1.out.keep hb2)
        have kr := T2.out.res.1
        have kf := T2.out.res.2
        have HO2 := Lib.hid ho2
        clear ho2 hb2 k11 k12
        go_wp2
        refine bodyPost_ret (v := .tuple #[.agg #[.slice a3 n2 c3], .bool true]) (by simp [results, Try.results104, go_sem, T2.out.q0]) rfl (T2.out.yes (B := w1.heap.size) ?_ T1.out.lt HI.out)
        rw [bsL, if_pos HI.out]
        exact HO2.out
      · have HI : Hid (bsB L M = false) := by show bsB L M = false; unfold bsB; rw [decide_eq_false hs]; simp
        have hd : decide ((16 : Int) < (L.length : Int) + (M.length : Int)) = true := by simp; omega
        refine wp_region_later (by kernel_rfl) (by kernel_rfl) ?_
        repeat (go_big_quiet_step ((first | (go_at_call 49; first | with_reducible exact hcA.out _ | with_reducible exact hcB.out _) | (go_at_call 51; first | with_reducible exact hcC.out _ | with_reducible exact hcD.out _))))
        refine wpQuiet_nil ?_
        rintro _ ⟨x, rfl⟩
        have hT := TX.out x
        generalize x.at = w1 at hT ⊢
        have T1 := Lib.hid hT
        have kr := hT.res.1
        have kf := hT.res.2
        clear hwr hd kl1 kl2 k1 k2 hT hcA hcB hcC hcD hs
        go_wp2
        exact bodyPost_ret (v := .tuple #[.agg #[.slice none 0 0], .bool false]) (by simp [results, Try.results104, go_sem, T1.out.q0]) rfl (T1.out.no (bsL_no HI.out) HI.out)
    · have HI : Hid (bsB L M = false) := by show bsB L M = false; unfold bsB; rw [decide_eq_false hG2]; simp
      have hcB : Hid (∀ x : Later wS, Calls Try.prog 49 #[.agg #[.slice a2 M.length c2]] x.at fun e w5 => e = .returned (.bool false) ∧ ∃ y : Later wS, w5 = y.at) :=
        fun x => Calls.later ((specGraphOk_any _ M _ (HK2.out _ (TX.out x).bel)).mono fun _ _ ⟨h1, h2⟩ => ⟨by rw [h1, decide_eq_false hG2], h2⟩)
      clear hG2
      refine wp_region_later (by kernel_rfl) (by kernel_rfl) ?_
      repeat (go_big_quiet_step ((first | (go_at_call 49; first | with_reducible exact hcA.out _ | with_reducible exact hcB.out _))))
      refine wpQuiet_nil ?_
      rintro _ ⟨x, rfl⟩
      have hT := TX.out x
      generalize x.at = w1 at hT ⊢
      have T1 := Lib.hid hT
      have kr := hT.res.1
      have kf := hT.res.2
      clear kl1 kl2 k1 k2 hT hcA hcB
      go_wp2
      exact bodyPost_ret (v := .tuple #[.agg #[.slice none 0 0], .bool false]) (by simp [results, Try.results104, go_sem, T1.out.q0]) rfl (T1.out.no (bsL_no HI.out) HI.out)
  · have HI : Hid (bsB L M = false) := by show bsB L M = false; unfold bsB; rw [decide_eq_false hG1]; simp
    have hcA : Hid (∀ x : Later wS, Calls Try.prog 49 #[.agg #[.slice a1 L.length c1]] x.at fun e w5 => e = .returned (.bool false) ∧ ∃ y : Later wS, w5 = y.at) :=
      fun x => Calls.later ((specGraphOk_any _ L _ (HK1.out _ (TX.out x).bel)).mono fun _ _ ⟨h1, h2⟩ => ⟨by rw [h1, decide_eq_false hG1], h2⟩)
    clear hG1
    refine wp_region_later (by kernel_rfl) (by kernel_rfl) ?_
    repeat (go_big_quiet_step ((first | (go_at_call 49; with_reducible exact hcA.out _))))
    refine wpQuiet_nil ?_
    rintro _ ⟨x, rfl⟩
    have hT := TX.out x
    generalize x.at = w1 at hT ⊢
    have T1 := Lib.hid hT
    have kr := hT.res.1
    have kf := hT.res.2
    clear kl1 kl2 k1 k2 hT hcA
    go_wp2
    exact bodyPost_ret (v := .tuple #[.agg #[.slice none 0 0], .bool false]) (by simp [results, Try.results104, go_sem, T1.out.q0]) rfl (T1.out.no (bsL_no HI.out) HI.out)

end Go.Proofs.Ytojbaepcflkgeaa

/- Walks: two graphs joined. -/
namespace Go.Proofs.Ytojbaepcflkgeaa
open Go.RowKit

/-- Who is near whom in two graphs beside each other. -/
def bsA (L M : List (List Int)) (i j : Nat) : Bool := if i < L.length then adjB L i j else (decide (L.length ≤ j) && adjB M (i - L.length) (j - L.length))
theorem bsA_range {L M : List (List Int)} (h1 : GraphP L) (h2 : GraphP M) {i j : Nat} (h : bsA L M i j = true) : i < L.length + M.length ∧ j < L.length + M.length := by
  unfold bsA at h
  by_cases hi : i < L.length
  · rw [if_pos hi] at h
    have := (adjB_range h1 h).2
    omega
  · rw [if_neg hi, Bool.and_eq_true, decide_eq_true_iff] at h
    have := adjB_range h2 h.2
    omega
theorem bsA_sym {L M : List (List Int)} (h1 : GraphP L) (h2 : GraphP M) (i j : Nat) : bsA L M i j = bsA L M j i := by
  have key : ∀ i j, bsA L M i j = true → bsA L M j i = true := by
    intro i j h
    unfold bsA at h ⊢
    by_cases hi : i < L.length
    · rw [if_pos hi] at h
      have := (adjB_range h1 h).2
      rw [if_pos this, adjB_sym h1]; exact h
    · rw [if_neg hi, Bool.and_eq_true, decide_eq_true_iff] at h
      rw [if_neg (by omega), Bool.and_eq_true, decide_eq_true_iff, adjB_sym h2]
      exact ⟨by omega, h.2⟩
  rw [Bool.eq_iff_iff]
  exact ⟨key i j, key j i⟩
theorem bsA_self {L M : List (List Int)} (h1 : GraphP L) (h2 : GraphP M) (i : Nat) : bsA L M i i = false := by
  unfold bsA
  split
  · exact adjB_self h1 i
  · rw [adjB_self h2, Bool.and_false]
theorem bsR_adj {L M : List (List Int)} (h1 : GraphP L) (h2 : GraphP M) (hs : L.length + M.length ≤ 16) : bsR L M M.length = adjL (L.length + M.length) (bsA L M) := by
  apply nthR_ext
  · rw [bsR_len (Nat.le_refl _), adjL_len]
  · intro i hi
    rw [bsR_len (Nat.le_refl _)] at hi
    rw [adjL_nth _ hi]
    have hz1 := h1.1
    have hz2 := h2.1
    by_cases h : i < L.length
    · have e1 : nthR (bsR L M M.length) i = nthR L i := by
        unfold bsR nthR
        rw [List.getD_eq_getElem?_getD, List.getD_eq_getElem?_getD, List.getElem?_append_left h]
      rw [e1, ← row_list h1 h, rowM_pm h1]
      congr 1
      refine pm_congr (fun j _ => ?_)
      unfold bsA
      rw [if_pos h]
    · have hi2 : i - L.length < M.length := by omega
      have e1 : nthR (bsR L M M.length) i = shR L.length (nthR M (i - L.length)) := by
        unfold bsR nthR
        rw [List.take_length, List.getD_eq_getElem?_getD, List.getElem?_append_right (by omega), List.getElem?_map, List.getD_eq_getElem?_getD, List.getElem?_eq_getElem hi2]
        rfl
      rw [e1]
      have hs2 := (h2.2.1 _ hi2).1
      refine sets_eq (SetP.mk ?_ ?_) (listM_set _) (fun z => ?_)
      · unfold shR
        rw [List.pairwise_map]
        exact List.Pairwise.imp (fun h => by omega) hs2.pairwise
      · intro z hz
        obtain ⟨y, hy, rfl⟩ := List.mem_map.1 hz
        have := hs2.bounds y hy
        omega
      · rw [listM_mem]
        constructor
        · intro hz
          obtain ⟨y, hy, rfl⟩ := List.mem_map.1 hz
          have hb := hs2.bounds y hy
          obtain ⟨q, rfl⟩ : ∃ q : Nat, y = (q : Int) := ⟨y.toNat, by omega⟩
          refine ⟨q + L.length, by omega, ?_, by omega⟩
          rw [pm_bit]
          unfold bsA
          rw [if_neg h, show q + L.length - L.length = q from by omega, ← adjB_has h2 hi2 (by omega), (hasB_mem _ _).2 hy]
          simp; omega
        · rintro ⟨q, hq, hb, rfl⟩
          rw [pm_bit, Bool.and_eq_true] at hb
          have hb2 := hb.2
          unfold bsA at hb2
          rw [if_neg h, Bool.and_eq_true, decide_eq_true_iff, ← adjB_has h2 hi2 (by omega), hasB_mem] at hb2
          refine List.mem_map.2 ⟨_, hb2.2, ?_⟩
          omega
theorem bs_graph {L M : List (List Int)} (h1 : GraphP L) (h2 : GraphP M) (hs : L.length + M.length ≤ 16) : GraphP (adjL (L.length + M.length) (bsA L M)) :=
  adjL_graph ⟨by have := h1.1; omega, hs⟩ (fun i j h => (bsA_range h1 h2 h).2) (bsA_sym h1 h2) (bsA_self h1 h2)

/-- Which pairs across have been joined: all of those below u, and of u those below v. -/
def acB (n N u v p q : Nat) : Bool := decide (p < n ∧ n ≤ q ∧ q < N ∧ (p < u ∨ (p = u ∧ q < v)))
def joA (L M : List (List Int)) (u v i j : Nat) : Bool := bsA L M i j || acB L.length (L.length + M.length) u v i j || acB L.length (L.length + M.length) u v j i
theorem acB_step {n N u v p q : Nat} (hu : u < n) (hv : n ≤ v) (hN : v < N) : acB n N u (v + 1) p q = (acB n N u v p q || (p == u && q == v)) := by
  unfold acB
  rw [Bool.eq_iff_iff, Bool.or_eq_true, decide_eq_true_iff, decide_eq_true_iff, Bool.and_eq_true, beq_iff_eq, beq_iff_eq]
  omega
theorem joA_link {L M : List (List Int)} {u v : Nat} (hu : u < L.length) (hv : L.length ≤ v) (hN : v < L.length + M.length) (i j : Nat) : joA L M u (v + 1) i j = linkA (joA L M u v) u v i j := by
  unfold linkA joA
  rw [acB_step hu hv hN, acB_step hu hv hN]
  cases bsA L M i j <;> cases acB L.length (L.length + M.length) u v i j <;> cases acB L.length (L.length + M.length) u v j i <;> cases (i == u) <;> cases (j == v) <;> cases (i == v) <;> cases (j == u) <;> rfl
theorem acB_next (n N u p q : Nat) : acB n N u N p q = acB n N (u + 1) n p q := by
  unfold acB
  rw [Bool.eq_iff_iff, decide_eq_true_iff, decide_eq_true_iff]
  omega
theorem joA_next (L M : List (List Int)) (u i j : Nat) : joA L M u (L.length + M.length) i j = joA L M (u + 1) L.length i j := by
  unfold joA
  rw [acB_next, acB_next]
theorem joA_zero (L M : List (List Int)) (i j : Nat) : joA L M 0 L.length i j = bsA L M i j := by
  unfold joA acB
  rw [decide_eq_false (by omega), decide_eq_false (by omega), Bool.or_false, Bool.or_false]
/-- The answer. -/
def joL (L M : List (List Int)) : List (List Int) := if bsB L M = true then adjL (L.length + M.length) (joA L M L.length L.length) else []
theorem joL_no {L M : List (List Int)} (h : bsB L M = false) : joL L M = [] := by rw [joL, h]; rfl
theorem joL_small (L M : List (List Int)) : Small (joL L M) := by
  unfold joL
  split
  · rename_i h
    exact adjL_small _ _ (bsB_yes h).2.2
  · exact ⟨by simp, fun i hi => absurd hi (by simp)⟩

theorem WorkT.linked {w0 : World} {v1 v2 : Value} {bo B g N cg : Nat} {L L' : List (List Int)} {w w' : World} (h : WorkT w0 v1 v2 bo B g N cg L w) (hbo : w0.heap.size + 1 + 1 < bo) (ho : OwnGrid 2 35 w' B (.slice (some ⟨g, 0, none⟩) N cg) L') (hb : Below B w w') (ht : ∀ k, k < w.heap.size → k ≠ g → w'.heap[k]? = w.heap[k]?) :
    BoxT 30 w' bo (.slice (some ⟨g, 0, none⟩) N cg) ∧ WorkT w0 v1 v2 bo B g N cg L' (w'.setCell ⟨bo, 0, none⟩ (.slice (some ⟨g, 0, none⟩) N cg)) := by
  have hbt : BoxT 30 w' bo (.slice (some ⟨g, 0, none⟩) N cg) := by
    unfold BoxT
    rw [ht bo h.box.lt h.ne]
    exact h.box
  exact ⟨hbt, (h.three.keepB hb h.low).setOther hbo _, hbt.set _, ho.setType hbt (by decide) (by decide) 0 _, h.low⟩

set_option maxHeartbeats 3200000 in
set_option maxRecDepth 100000 in
theorem specJoinedGraph_any (v1 v2 : Value) (L M : List (List Int)) (w : World) (h1 : GridAt w v1 L) (h2 : GridAt w v2 M) : Calls Try.prog 80 #[.agg #[v1], .agg #[v2]] w (GaveGB w (joL L M) (bsB L M)) := by
  obtain ⟨a1, c1, rfl⟩ := h1.slice
  obtain ⟨a2, c2, rfl⟩ := h2.slice
  have T0 := Lib.hid (Three.start w (.slice a1 L.length c1) (.slice a2 M.length c2))
  have HK1 : Hid (∀ w', Below w.heap.size w w' → GridAt w' (.slice a1 L.length c1) L) := fun w' hb => h1.keep hb
  have HK2 : Hid (∀ w', Below w.heap.size w w' → GridAt w' (.slice a2 M.length c2) M) := fun w' hb => h2.keep hb
  have hsz0 : Hid ((((w.alloc (.cells #[.slice a1 L.length c1] 30)).alloc (.cells #[.slice a2 M.length c2] 30)).alloc (.cells #[.slice none 0 0] 30)).heap.size = w.heap.size + 1 + 1 + 1) := by show _ = _; rw [size_alloc1, size_alloc1, size_alloc1]
  clear h1 h2
  go_enter Try.func80, Try.ntmps80
  go_wp2_with fail
  refine (specBeside_any _ _ L M _ (HK1.out _ T0.out.bel) (HK2.out _ T0.out.bel)).mono ?_
  rintro e w1 ⟨n1, ag, cg, rfl, ho1, hb1⟩
  by_cases hB : bsB L M = true
  · have HI := Lib.hid hB
    obtain ⟨hG1, hG2, hs⟩ := bsB_yes hB
    have hzL := hG1.1
    have hzM := hG2.1
    have HG1 := Lib.hid hG1
    have HG2 := Lib.hid hG2
    rw [bsL, if_pos hB, bsR_adj hG1 hG2 hs] at ho1
    rw [hB]
    obtain ⟨rfl, g, rfl, hwk⟩ := WorkT.start T0.out hb1 ho1 (by rw [adjL_len]; omega)
    have hbo : w.heap.size + 1 + 1 < w1.heap.size := Nat.lt_of_lt_of_le T0.out.lt hb1.size
    rw [adjL_len, hsz0.out] at hwk
    rw [adjL_len]
    have HWK0 : Hid (WorkT w (.slice a1 L.length c1) (.slice a2 M.length c2) w1.heap.size (w.heap.size + 1 + 1 + 1) g (L.length + M.length) cg (adjL (L.length + M.length) (joA L M 0 L.length)) (w1.alloc (.cells #[.slice (some ⟨g, 0, none⟩) (L.length + M.length) cg] 30))) := by
      rw [adjL_congr (fun i _ j _ => joA_zero L M i j)]; exact hwk
    clear hB hG1 hG2 ho1 hb1 hwk
    go_wp2_with fail
    generalize hw2 : (w1.alloc (.cells #[.slice (some ⟨g, 0, none⟩) (L.length + M.length) cg] 30)) = w2 at HWK0 ⊢
    clear hw2
    go_loopw [8] (fun i wr => ∃ k : Nat, k ≤ L.length ∧ i = .int .i64 k ∧ WorkT w (.slice a1 L.length c1) (.slice a2 M.length c2) w1.heap.size (w.heap.size + 1 + 1 + 1) g (L.length + M.length) cg (adjL (L.length + M.length) (joA L M k L.length)) wr) (fun i _ => L.length - (intOf i).toNat)
    case atStart => exact ⟨0, Nat.zero_le _, rfl, HWK0.out⟩
    case round =>
      obtain ⟨k, hk, rfl, hw⟩ := hrel
      have HW := Lib.hid hw
      have kb := hw.three.one.1
      clear hw
      go_wp2_with fail
      refine (l1Size_any _ L _ (HK1.out _ HW.out.three.bel)).mono ?_
      rintro e w3 ⟨rfl, hb3⟩
      have HW3 := Lib.hid (HW.out.keep hb3)
      have kb3 := HW3.out.three.one.1
      clear hb3 kb
      by_cases hlt : k < L.length
      · go_wp2_with fail
        refine (l1Size_any _ L _ (HK1.out _ HW3.out.three.bel)).mono ?_
        rintro e w4 ⟨rfl, hb4⟩
        have HW4 := Lib.hid (HW3.out.keep hb4)
        clear hb4 kb3
        go_wp2_with fail
        go_loopw [9] (fun i wr => ∃ q : Nat, L.length ≤ q ∧ q ≤ L.length + M.length ∧ i = .int .i64 q ∧ WorkT w (.slice a1 L.length c1) (.slice a2 M.length c2) w1.heap.size (w.heap.size + 1 + 1 + 1) g (L.length + M.length) cg (adjL (L.length + M.length) (joA L M k q)) wr) (fun i _ => L.length + M.length - (intOf i).toNat)
        case atStart => exact ⟨L.length, Nat.le_refl _, by omega, rfl, HW4.out⟩
        case round =>
          rename World => w5
          obtain ⟨q, hq1, hq2, rfl, hw⟩ := hrel
          have HW5 := Lib.hid hw
          have k65 := hw.box.box.1
          have HGG := Lib.hid hw.own.grid
          clear hw
          go_wp2_with fail
          refine (l1Size_any _ (adjL (L.length + M.length) (joA L M k q)) _ HGG.out).mono ?_
          rintro e w6 ⟨rfl, hb6⟩
          have HW6 := Lib.hid (HW5.out.keep hb6)
          have k66 := HW6.out.box.box.1
          rw [adjL_len]
          clear hb6 k65 HGG
          by_cases hql : q < L.length + M.length
          · have hqI : (q : Int) < (L.length : Int) + (M.length : Int) := by omega
            have hqd : decide ((q : Int) < ((L.length + M.length : Nat) : Int)) = true := by simp; omega
            go_wp2_with fail
            refine (l1Link_adj k q g cg (w.heap.size + 1 + 1 + 1) (L.length + M.length) _ _ HW6.out.own (by have := HW6.out.box.lt; omega) (by omega) hql hs (by omega)).mono ?_
            rintro e w7 ⟨rfl, ho7, hb7, ht7⟩
            obtain ⟨hbt7, hw7⟩ := HW6.out.linked hbo ho7 hb7 ht7
            rw [← adjL_congr (fun i _ j _ => joA_link (M := M) hlt hq1 hql i j)] at hw7
            have k67 := hbt7.box.1
            have f67 := hbt7.box.2
            have HW7 := Lib.hid hw7
            clear ho7 hb7 ht7 hbt7 hw7 k66 hqI hqd
            go_wp2
            go_roundw
            case rel => exact ⟨q + 1, by omega, by omega, by go_num, HW7.out⟩
            case measure => simp [intOf]; omega
          · obtain rfl : q = L.length + M.length := by omega
            clear k66
            go_wp2
            go_roundw
            case rel => exact ⟨k + 1, by omega, by go_num, by rw [← adjL_congr (fun i _ j _ => joA_next L M k i j)]; exact HW6.out⟩
            case measure => simp [intOf]; omega
      · obtain rfl : k = L.length := by omega
        have k6 := HW3.out.box.box.1
        have kr := HW3.out.three.res.1
        have kf := HW3.out.three.res.2
        clear kb3
        go_wp2
        refine bodyPost_ret (v := .tuple #[.agg #[.slice (some ⟨g, 0, none⟩) (L.length + M.length) cg], .bool true]) (by simp [results, Try.results80, go_sem, HW3.out.three.q0]) rfl ?_
        rw [joL, if_pos HI.out]
        exact HW3.out.done HI.out
  · have hB' : bsB L M = false := by simpa using hB
    have HI := Lib.hid hB'
    have T1 := Lib.hid (T0.out.keep hb1)
    have T2 := Lib.hid (T1.out.keep ((Below.refl _ _).alloc (Nat.le_refl _) (.cells #[.slice ag n1 cg] 30)))
    have kr := T2.out.res.1
    have kf := T2.out.res.2
    rw [hB']
    clear hB hB' ho1 hb1
    go_wp2
    exact bodyPost_ret (v := .tuple #[.agg #[.slice none 0 0], .bool false]) (by simp [results, Try.results80, go_sem, T2.out.q0]) rfl (T2.out.no (joL_no HI.out) HI.out)

end Go.Proofs.Ytojbaepcflkgeaa
