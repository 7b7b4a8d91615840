/- The texts M9, N1, N2, joined. -/
import Derived.Test.YtmfolclpddoplaaQM1
import Derived.Deep.AppendLies
import Derived.Deep.RegionLaw
import Derived.Test.YtmfolclpddoplaaQM7
import Derived.StillTailTactics

/- Walks: the model's copy of a graph. -/
namespace Go.Proofs.Ytmfolclpddoplaa
open Go.RowKit

/-- The boxes of the model's copy at work. -/
structure CopyWork (w0 : World) (v : Value) (L : List (List Int)) (k : Nat) (w : World) : Prop where
  arg : BoxAt w w0.heap.size v
  res : BoxAt w (w0.heap.size + 1) (.slice none 0 0)
  out : ∃ a c, BoxAt w (w0.heap.size + 1 + 1) (.slice a k c) ∧ OwnGrid 2 31 w (w0.heap.size + 1 + 1 + 1) (.slice a k c) (L.take k)
  bel : Below w0.heap.size w0 w
  size : w0.heap.size + 1 + 1 + 1 ≤ w.heap.size

theorem take_snocR {L : List (List Int)} {k : Nat} (h : k < L.length) : L.take (k + 1) = L.take k ++ [nthR L k] := by
  rw [List.take_succ_eq_append_getElem h, nthR_eq h]

/-- A row laid, its box laid, the grid grown by it, put back: the copy has one row more. -/
theorem CopyWork.grow {w0 w w2 w7 : World} {v : Value} {L : List (List Int)} {k g cap : Nat} {a : Option Addr} {c : Nat} {rv : Value} {R : Nat → Value} (h : CopyWork w0 v L k w) (hk : k < L.length) (hl : L.length ≤ 1048576) (hb : Below w.heap.size w w2) (hr : OwnRow 2 w2 w.heap.size rv (nthR L k))
    (hbx : BoxAt w (w0.heap.size + 1 + 1) (.slice a k c)) (hR : w.ownsRow (w0.heap.size + 1 + 1 + 1) 31 1 (.slice a k c) k ((List.range k).map R)) (hRr : ∀ i, i < k → OwnRow 2 w (w0.heap.size + 1 + 1 + 1) (R i) (nthR (L.take k) i)) (hRd : ∀ i j q, i < j → j < k → (R i).ownBlock = some q → (R j).ownBlock ≠ some q)
    (hown : w7.ownsRow (w0.heap.size + 1 + 1 + 1) 31 1 (.slice (some ⟨g, 0, none⟩) (k + 1) cap) (k + 1) ((List.range k).map R ++ [rv])) (hgrow : (w2.alloc (.cells #[rv] 31)).grownBy w7 (Value.slice a k c).ownBlock) :
    BoxAt w7 (w0.heap.size + 1 + 1) (.slice a k c) ∧ CopyWork w0 v L (k + 1) (w7.setCell ⟨w0.heap.size + 1 + 1, 0, none⟩ (.slice (some ⟨g, 0, none⟩) (k + 1) cap)) := by
  have hsz := h.size
  have htl : (L.take k).length = k := by rw [List.length_take]; omega
  have hW : Below w.heap.size w (w2.alloc (.cells #[rv] 31)) := hb.alloc hb.size _
  have hbw : Below (w0.heap.size + 1 + 1 + 1) w w7 := (hW.mono hsz).grown hgrow (by rw [size_alloc1]; have := hb.size; omega) (fun j hj => (hR.lt j hj).1)
  have hog : OwnGrid 2 31 w7 (w0.heap.size + 1 + 1 + 1) (.slice (some ⟨g, 0, none⟩) (k + 1) cap) (L.take k ++ [nthR L k]) := by
    refine OwnGrid.snoc (w0 := w) (w := w2.alloc (.cells #[rv] 31)) (rv := rv) (n := k) (v := .slice a k c) (by decide) hW hsz ?_ htl.symm (by rw [htl]; unfold maxLen; omega) R (by rw [htl]; exact hR) (by rw [htl]; exact hRr) (by rw [htl]; exact hRd) (by rw [htl]; exact hown) hgrow
    exact hr.keep ((Below.refl _ _).alloc (Nat.le_refl _) _)
  rw [← take_snocR hk] at hog
  have hbx7 := hbx.keepB hbw (by omega)
  exact ⟨hbx7, (h.arg.keepB hbw (by omega)).setOther (by simp; omega) _, (h.res.keepB hbw (by omega)).setOther (by simp) _, ⟨_, cap, hbx7.set _, hog.setBelow (by simp) _⟩, (h.bel.trans (hbw.mono (by omega))).setCell (by simp; omega) _, by rw [size_setCell1]; exact Nat.le_trans hsz hbw.size⟩

set_option maxHeartbeats 3200000 in
set_option maxRecDepth 100000 in
theorem l1CopyGraph_any (v : Value) (L : List (List Int)) (w : World) (h : GridAt w v L) (hs : Small L) : Calls Try.prog 108 #[.agg #[v]] w (GaveGraph w L) := by
  obtain ⟨i0, hi, hz0, hz1, hz2⟩ := info_parts Try.infoR
  obtain ⟨a0, c0, rfl⟩ := h.slice
  have hl := hs.1
  have HS := Lib.hid hs.2
  have HG := Lib.hid h
  have T0 : Hid (CopyWork w (.slice a0 L.length c0) L 0 (((w.alloc (.cells #[.slice a0 L.length c0] 29)).alloc (.cells #[.slice none 0 0] 29)).alloc (.cells #[.slice none 0 0] 29))) := by
    refine ⟨⟨by go_simp, by go_simp⟩, ⟨by go_simp, by go_simp⟩, ⟨none, 0, ⟨by go_simp, by go_simp⟩, own_nil _ _⟩, (((Below.refl _ _).alloc (Nat.le_refl _) _).alloc (by simp) _).alloc (by simp; omega) _, by simp⟩
  clear h hs
  go_enter Try.func108, Try.ntmps108
  go_wp2_with fail
  go_loopw [4] (fun i wr => ∃ k : Nat, k ≤ L.length ∧ i = .int .i64 k ∧ CopyWork w (.slice a0 L.length c0) L k wr) (fun i _ => L.length - (intOf i).toNat)
  case atStart => exact ⟨0, Nat.zero_le _, rfl, T0.out⟩
  case round =>
    obtain ⟨k, hk, rfl, hw⟩ := hrel
    have HW := Lib.hid hw
    have kb := hw.arg.1
    by_cases hlt : k < L.length
    · obtain ⟨b, o, c', A, C, e2, l1, l2, hc⟩ := HG.out.pos (by omega)
      simp only [Value.slice.injEq, true_and] at e2
      obtain ⟨rfl, rfl⟩ := e2
      have hck := cell_keep hw.bel (hc k hlt).1
      have HRK := Lib.hid ((hc k hlt).2.keep hw.bel)
      obtain ⟨ag, cg, hbx, hog⟩ := hw.out
      obtain ⟨R, hR, hRr, hRd⟩ := hog.owns
      have htl : (L.take k).length = k := by rw [List.length_take]; omega
      rw [htl] at hR hRr hRd
      have kt := hbx.1
      have ft := hbx.2
      have HBX := Lib.hid hbx
      have HR := Lib.hid hR
      have HRr := Lib.hid hRr
      have HRd := Lib.hid hRd
      have hzr := hw.size
      have hrl := HS.out k hlt
      have HC3 : Hid (k + 1 ≤ maxLen) := by show _ ≤ _; unfold maxLen; omega
      have HC4 : Hid ((k + 1) * 24 ≤ 140737488355328) := by show _ ≤ _; omega
      clear hc hw hbx hog hR hRr hRd htl
      go_wp2_with fail
      go_region_law (first
        | (go_simp; go_at_call 120; refine (l1Copy_any _ (nthR L k) _ (HRK.out.keep (Below.refl _ _).drew) hrl).mono ?_; rintro e w2 ⟨n2, a2, c2, rfl, ho2, hb2⟩; have HB2 : Hid (Below wr.heap.size wr w2) := (Below.refl _ _).drew.trans hb2; have HO2 : Hid (OwnRow 2 w2 wr.heap.size (.slice a2 n2 c2) (nthR L k)) := ho2; have kt2 := cell_keep HB2.out kt; have kt2a : (w2.alloc (.cells #[.slice a2 n2 c2] 31)).cell? ⟨w.heap.size + 1 + 1, 0, none⟩ = some (.slice ag k cg) := cell_keep ((Below.refl _ _).alloc (Nat.le_refl _) _) kt2; have HOR2 : Hid (w2.ownsRow (w.heap.size + 1 + 1 + 1) 31 1 (.slice ag k cg) k ((List.range k).map R)) := (⟨HR.out.1, HR.out.2.imp (fun h => h) (fun ⟨g, cap, cur, e, hgB, hh, r⟩ => ⟨g, cap, cur, e, hgB, by rw [HB2.out.block g (Array.getElem?_eq_some_iff.1 hh).1]; exact hh, r⟩)⟩); have HZ2 : Hid (w.heap.size + 1 + 1 + 1 ≤ (w2.alloc (.cells #[.slice a2 n2 c2] 31)).heap.size) := (by show _ ≤ _; rw [size_alloc1]; have := HB2.out.size; omega); clear ho2 hb2)
        | (refine step_append_lies _ (by rfl) (.tmp 14) (.tmp 21) 27 (by rfl) (w.heap.size + 1 + 1 + 1) 31 i0 (.slice none 0 0) 1 24 Try.underlying27 hi hz0 hz1 hz2 rfl (by omega) (.slice ag k cg) k ((List.range k).map R) (by rfl) (HOR2.out.alloc _) ⟨w2.heap.size, 0, none⟩ 1 1 [.slice a2 n2 c2] (by rfl) rfl (World.news_of_block (heap_alloc_new _ _)) (fun u hu => by simp at hu; subst hu; rfl) Nat.one_pos HC3.out HC4.out HZ2.out (w2.heap.size + 1) (size_alloc1 _ _) ?_; intro g7 cap7 w7 hown7 hgrow7 hat7 hlt7; obtain ⟨hbx7, hw7⟩ := HW.out.grow hlt hl HB2.out HO2.out HBX.out HR.out HRr.out HRd.out hown7 hgrow7; have kt7 := hbx7.1; have ft7 := hbx7.2; have HW7 := Lib.hid hw7; clear hown7 hgrow7 hat7 hlt7 hbx7 hw7))
      all_goals (
        clear kt7 ft7 kt2 kt2a kt ft kb hck
        go_wp2
        go_roundw
        case rel => exact ⟨k + 1, by omega, by go_num, HW7.out⟩
        case measure => simp [intOf]; omega)
    · obtain rfl : k = L.length := by omega
      obtain ⟨ag, cg, hbx, hog⟩ := hw.out
      have kt := hbx.1
      have kr := hw.res.1
      have kf := hw.res.2
      rw [List.take_length] at hog
      have HOG := Lib.hid hog
      have HRS := Lib.hid hw.res
      clear hbx hog hw
      go_wp2
      have q0 : (wr.setCell ⟨w.heap.size + 1, 0, none⟩ (.slice ag L.length cg)).cell? ⟨w.heap.size + 1, 0, none⟩ = some (.slice ag L.length cg) := cell_set_same _ HRS.out.1
      refine bodyPost_ret (v := .agg #[.slice ag L.length cg]) (by simp [results, Try.results108, go_sem, q0]) rfl ⟨L.length, ag, cg, rfl, ?_, ?_⟩
      · exact (HOG.out.setBelow (by simp) _).mono (by omega)
      · exact HW.out.bel.setCell (by simp) _

end Go.Proofs.Ytmfolclpddoplaa

/- Walks: an edge contracted. -/
namespace Go.Proofs.Ytmfolclpddoplaa
open Go.RowKit

theorem minA_any (x y : Int) (w : World) : Calls Try.prog 139 #[.int .i64 x, .int .i64 y] w fun e w' => e = .returned (.int .i64 (min x y)) ∧ w = w' := by
  by_cases h : x < y
  · have e : min x y = x := by omega
    have d : decide (x < y) = true := by simpa using h
    rw [e]
    clear e h
    go_enter Try.func139, Try.ntmps139
    go_wp2
    go_ret
    exact ⟨rfl, rfl⟩
  · have e : min x y = y := by omega
    have d : decide (x < y) = false := by simpa using h
    rw [e]
    clear e h
    go_enter Try.func139, Try.ntmps139
    go_wp2
    go_ret
    exact ⟨rfl, rfl⟩
theorem maxA_any (x y : Int) (w : World) : Calls Try.prog 67 #[.int .i64 x, .int .i64 y] w fun e w' => e = .returned (.int .i64 (max x y)) ∧ w = w' := by
  by_cases h : y < x
  · have e : max x y = x := by omega
    have d : decide (y < x) = true := by simpa using h
    rw [e]
    clear e h
    go_enter Try.func67, Try.ntmps67
    go_wp2
    go_ret
    exact ⟨rfl, rfl⟩
  · have e : max x y = y := by omega
    have d : decide (y < x) = false := by simpa using h
    rw [e]
    clear e h
    go_enter Try.func67, Try.ntmps67
    go_wp2
    go_ret
    exact ⟨rfl, rfl⟩

/-- Who is near whom when a has been joined to the vertices of ys but itself. -/
def conA (L : List (List Int)) (a : Nat) (ys : List Int) (i j : Nat) : Bool := adjB L i j || (i == a && j != a && hasB ys (j : Int)) || (j == a && i != a && hasB ys (i : Int))
theorem conA_nil (L : List (List Int)) (a i j : Nat) : conA L a [] i j = adjB L i j := by
  unfold conA
  have : ∀ z : Int, hasB [] z = false := fun z => by cases h : hasB [] z with | false => rfl | true => (rw [hasB_iff] at h; obtain ⟨q, hq, _⟩ := h; simp at hq)
  rw [this, this]; simp
theorem hasB_snoc (xs : List Int) (y z : Int) : hasB (xs ++ [y]) z = (hasB xs z || z == y) := by
  rw [Bool.eq_iff_iff, hasB_mem, Bool.or_eq_true, hasB_mem, beq_iff_eq]
  simp
theorem conA_same (L : List (List Int)) (a : Nat) (ys : List Int) (i j : Nat) : conA L a (ys ++ [(a : Int)]) i j = conA L a ys i j := by
  unfold conA
  rw [hasB_snoc, hasB_snoc]
  by_cases h1 : j = a
  · subst h1
    by_cases h2 : i = j
    · subst h2; simp
    · have e : ((i : Int) == (j : Int)) = false := by rw [beq_eq_false_iff_ne]; omega
      rw [e]; simp
  · have e : ((j : Int) == (a : Int)) = false := by rw [beq_eq_false_iff_ne]; omega
    have e1 : (j == a) = false := by rw [beq_eq_false_iff_ne]; exact h1
    rw [e, e1]; simp
theorem conA_link (L : List (List Int)) {a y : Nat} (ys : List Int) (hy : y ≠ a) (i j : Nat) : conA L a (ys ++ [(y : Int)]) i j = linkA (conA L a ys) a y i j := by
  unfold linkA conA
  rw [hasB_snoc, hasB_snoc]
  have c1 : ((j : Int) == (y : Int)) = (j == y) := by rw [Bool.eq_iff_iff, beq_iff_eq, beq_iff_eq]; omega
  have c2 : ((i : Int) == (y : Int)) = (i == y) := by rw [Bool.eq_iff_iff, beq_iff_eq, beq_iff_eq]; omega
  rw [c1, c2]
  have d1 : j = y → (j != a) = true := fun h => by rw [bne_iff_ne]; omega
  have d2 : i = y → (i != a) = true := fun h => by rw [bne_iff_ne]; omega
  by_cases h1 : j = y
  · have e := d1 h1
    have f : (j == a) = false := by rw [beq_eq_false_iff_ne]; omega
    have g : (j == y) = true := by rw [beq_iff_eq]; exact h1
    rw [e, f, g]
    cases adjB L i j <;> cases (i == a) <;> cases hasB ys (j : Int) <;> simp
  · have g : (j == y) = false := by rw [beq_eq_false_iff_ne]; exact h1
    rw [g]
    by_cases h2 : i = y
    · have e := d2 h2
      have f : (i == a) = false := by rw [beq_eq_false_iff_ne]; omega
      have g : (i == y) = true := by rw [beq_iff_eq]; exact h2
      rw [e, f, g]
      cases adjB L i j <;> cases (j == a) <;> cases hasB ys (i : Int) <;> simp
    · have g : (i == y) = false := by rw [beq_eq_false_iff_ne]; exact h2
      rw [g]; simp

/-- The graph in which the edge is contracted, but for the vertex that goes. -/
def conG (L : List (List Int)) (a b : Nat) : List (List Int) := adjL L.length (conA L a (nthR L b))
theorem conG_graph {L : List (List Int)} (hG : GraphP L) {a b : Nat} (ha : a < L.length) (hb : b < L.length) : GraphP (conG L a b) := by
  have hr : ∀ z : Nat, hasB (nthR L b) (z : Int) = true → z < L.length := by
    intro z hz
    obtain ⟨q, hq, e⟩ := (hasB_iff _ _).1 hz
    have := ((hG.2.1 b hb).1 q hq).2.1
    rw [e] at this
    omega
  refine adjL_graph hG.1 ?_ ?_ ?_
  · intro i j h
    unfold conA at h
    simp only [Bool.or_eq_true, Bool.and_eq_true, beq_iff_eq] at h
    rcases h with (h | h) | h
    · exact (adjB_range hG h).2
    · exact hr j h.2
    · omega
  · intro i j
    unfold conA
    rw [adjB_sym hG i j]
    cases adjB L j i <;> cases (i == a && j != a && hasB (nthR L b) (j : Int)) <;> cases (j == a && i != a && hasB (nthR L b) (i : Int)) <;> rfl
  · intro i
    unfold conA
    rw [adjB_self hG]
    by_cases h : i = a
    · subst h; simp
    · have : (i == a) = false := by rw [beq_eq_false_iff_ne]; exact h
      rw [this]; simp
theorem conG_len (L : List (List Int)) (a b : Nat) : (conG L a b).length = L.length := adjL_len _ _
theorem adjB_adjL {n : Nat} {A : Nat → Nat → Bool} (hG : GraphP (adjL n A)) {i j : Nat} (hi : i < n) (hj : j < 16) : adjB (adjL n A) i j = A i j := by
  rw [← adjB_has hG (by rw [adjL_len]; exact hi) hj, adjL_nth _ hi, Bool.eq_iff_iff, hasB_mem, listM_mem]
  constructor
  · rintro ⟨q, h1, h2, h3⟩
    have : q = j := by omega
    subst this
    rw [pm_bit, Bool.and_eq_true] at h2
    exact h2.2
  · intro h
    exact ⟨j, hj, by rw [pm_bit, h]; simp [hj], rfl⟩
theorem rowM_adjL {n : Nat} {A : Nat → Nat → Bool} (hG : GraphP (adjL n A)) {i : Nat} (hi : i < n) : rowM (adjL n A) i = pm (A i) := by
  rw [rowM_pm hG]
  exact pm_congr (fun j hj => adjB_adjL hG hi hj)
theorem row_list {L : List (List Int)} (hG : GraphP L) {b : Nat} (hb : b < L.length) : listM (rowM L b) = nthR L b := by
  have h : nthR (adjL L.length (adjB L)) b = nthR L b := by rw [graph_adjL hG]
  rw [adjL_nth _ hb] at h
  rw [rowM_pm hG]
  exact h

/-- The answer. -/
def conL (L : List (List Int)) (u x : Int) : List (List Int) := pickL (conG L (min u x).toNat (max u x).toNat) (restL L.length (max u x).toNat) (edgeB L u x)
theorem conL_small (L : List (List Int)) (u x : Int) : Small (conL L u x) := pickL_small (fun _ => restL_len _ _)
theorem conL_no {L : List (List Int)} {u x : Int} (h : edgeB L u x = false) : conL L u x = [] := by rw [conL, h]; rfl
/-- The two ends of an edge, the lesser first. -/
theorem edgeB_ends {L : List (List Int)} {u x : Int} (h : edgeB L u x = true) : GraphP L ∧ ∃ a b : Nat, ((u = (a : Int) ∧ x = (b : Int)) ∨ (u = (b : Int) ∧ x = (a : Int))) ∧ a < b ∧ b < L.length := by
  unfold edgeB inB at h
  simp at h
  obtain ⟨⟨⟨hG, hu⟩, hx⟩, hh⟩ := h
  have hne : u ≠ x := by
    intro e
    subst e
    have := (hG.2.1 u.toNat (by omega)).2
    rw [Int.toNat_of_nonneg hu.1, hh] at this
    cases this
  exact ⟨hG, (min u x).toNat, (max u x).toNat, by omega, by omega, by omega⟩

theorem OwnRow.put {T T2 : TypeId} {w w' : World} {B g n : Nat} {M : Nat → Nat} {v : Value} {xs : List Int} (h : OwnRow T w B v xs) (hp : NetPut T2 w w' g n M) (hg : g < B) : OwnRow T w' B v xs := by
  obtain ⟨h1, h2, h3⟩ := h
  refine ⟨h1, h2, ?_⟩
  rcases h3 with h3 | ⟨g', cap, cur, e, hg', hh, r⟩
  · exact Or.inl h3
  · exact Or.inr ⟨g', cap, cur, e, hg', by rw [hp.other g' (by omega)]; exact hh, r⟩
theorem Two.putG {T : TypeId} {w0 : World} {v : Value} {w w' : World} {g n : Nat} {M : Nat → Nat} (h : Two w0 v w) (hp : NetPut T w w' g n M) (hg : w0.heap.size + 1 < g) : Two w0 v w' :=
  ⟨h.arg.keepB hp.below (by omega), h.res.keepB hp.below hg, h.bel.trans (hp.below.mono (by omega))⟩
theorem conG_pick {L : List (List Int)} (hG : GraphP L) {a b : Nat} (ha : a < L.length) (hb : b < L.length) : ∀ i j, i < (restL L.length b).length → j < (restL L.length b).length → pickA (conG L a b) (restL L.length b) i j = hasM (pm (conA L a (nthR L b) (nth (restL L.length b) i).toNat)) (nth (restL L.length b) j) := by
  intro i j hi hj
  have hz := hG.1
  have hGc := conG_graph hG ha hb
  have hin := restL_in hz.2 hb
  rw [pickA_impl hGc (fun i hi => by rw [conG_len]; exact hin i hi) i j hi hj]
  have := hin i hi
  unfold conG at hGc ⊢
  rw [rowM_adjL hGc (by omega)]

end Go.Proofs.Ytmfolclpddoplaa

/- Walks: the model's contraction. -/
namespace Go.Proofs.Ytmfolclpddoplaa
open Go.RowKit

theorem graph_small {L : List (List Int)} (hG : GraphP L) : Small L := by
  rw [← graph_adjL hG]
  exact adjL_small _ _ hG.1.2

end Go.Proofs.Ytmfolclpddoplaa
