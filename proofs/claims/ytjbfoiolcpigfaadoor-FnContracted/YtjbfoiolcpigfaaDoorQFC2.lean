/- The texts FC2, FC3, joined. -/
import Derived.Test.YtjbfoiolcpigfaaDoorQK2
import Derived.Test.YtjbfoiolcpigfaaDoorQH0
import Derived.Test.YtjbfoiolcpigfaaDoorQD5
import Derived.Deep.RegionLaw
import Derived.Test.YtjbfoiolcpigfaaDoorQW2
import Derived.Test.YtjbfoiolcpigfaaDoorQN3
import Derived.Deep.RegionHeld3

/- Walks: a graph and two vertices drawn. -/
namespace Go.Proofs.YtjbfoiolcpigfaaDoor
open Go.RowKit

theorem l1From_wide (c nb m : Nat) (bv : Value) (w : World) (hm : m ≤ 17) (hc : CurAt w c bv nb) (hb : BytesAt w c bv nb) : Calls Tryd.prog 141 #[.pointer (some ⟨c, 0, none⟩), .int .i64 (-1), .int .i64 (m : Int)] w (Drew w c bv nb (fun y => -1 ≤ y ∧ y ≤ 18)) := by
  have HBY := Lib.hid hb
  have HC := Lib.hid hc
  have hw1 : IntKind.i64.wrap ((m : Int) - -1) = (m : Int) + 1 := by rw [show (m : Int) - -1 = (m : Int) + 1 from by omega]; exact IntWalk.i64_in _ (by omega)
  have hw2 : IntKind.i64.wrap ((m : Int) + 1 + 1) = (m : Int) + 2 := by rw [show (m : Int) + 1 + 1 = (m : Int) + 2 from by omega]; exact IntWalk.i64_in _ (by omega)
  clear hc hb
  go_enter Tryd.func141, Tryd.ntmps141
  go_wp2_with fail
  refine (l1Below_any c nb bv _ _ HC.out HBY.out (by unfold I64; omega)).mono ?_
  rintro e w1 ⟨y, rfl, hy, hc1, ho1⟩
  have hy' := hy.2 (by omega)
  have HC1 := Lib.hid hc1
  have HO1 := Lib.hid ho1
  have hw3 : IntKind.i64.wrap (-1 + y) = -1 + y := IntWalk.i64_in _ (by omega)
  clear hc1 ho1 hy
  go_wp2
  go_ret
  exact ⟨-1 + y, rfl, ⟨by omega, by omega⟩, HC1.out, HO1.out⟩

/-- A graph and two numbers have been drawn. -/
def DrewGUV (w : World) (c : Nat) (bv : Value) (nb : Nat) (e : Ending) (w' : World) : Prop :=
  ∃ L n a cap u v, e = .returned (.tuple #[.agg #[.slice a n cap], .int .i64 u, .int .i64 v]) ∧ OwnGrid 2 36 w' w.heap.size (.slice a n cap) L ∧ I64 u ∧ I64 v ∧ CurAt w' c bv nb ∧ Touched c (c + 1) w w' ∧ n ≤ 17

/-- The graph is drawn and boxed; the cursor may go on. -/
structure LaidC (w W : World) (c nb : Nat) (bv v : Value) (L : List (List Int)) (b : Nat) : Prop where
  cur : CurAt W c bv nb
  byt : BytesAt W c bv nb
  grid : OwnGrid 2 36 W (w.heap.size + 1) v L
  box : BoxAt W b v
  res : BoxAt W w.heap.size (.slice none 0 0)
  tou : Touched c (c + 1) w W
  lo : w.heap.size < b
  hc : c < w.heap.size
theorem LaidC.drew {w W : World} {c nb : Nat} {bv v : Value} {L : List (List Int)} {b : Nat} (h : LaidC w W c nb bv v L b) : LaidC w W.drew c nb bv v L b :=
  have hb : Below W.heap.size W W.drew := (Below.refl _ _).drew
  ⟨h.cur.keepB hb h.cur.lt, h.byt.keepB hb (Nat.le_of_lt h.cur.lt), h.grid.keep hb, h.box.keep hb, h.res.keep hb, h.tou.under hb h.tou.size, h.lo, h.hc⟩
theorem LaidC.only {w W W' : World} {c nb : Nat} {bv v : Value} {L : List (List Int)} {b : Nat} (h : LaidC w W c nb bv v L b) (ho : OnlyBlk c W W') (hc : CurAt W' c bv nb) : LaidC w W' c nb bv v L b :=
  have ht : Touched c (c + 1) W W' := ho.touched (Nat.le_refl _) (Nat.lt_succ_self _)
  ⟨hc, ht.bytes h.byt (Nat.le_of_lt h.cur.lt), h.grid.touched ht (by have := h.hc; omega), h.box.only ho (by have := h.lo; have := h.hc; omega), h.res.only ho (by have := h.hc; omega), h.tou.only ho, h.lo, h.hc⟩

set_option maxHeartbeats 1600000 in
set_option maxRecDepth 100000 in
theorem l1DrawPair_any (c nb : Nat) (bv : Value) (w : World) (hc : CurAt w c bv nb) (hb : BytesAt w c bv nb) : Calls Tryd.prog 125 #[.pointer (some ⟨c, 0, none⟩)] w (DrewGUV w c bv nb) := by
  have hcw := hc.lt
  have hb0 : Below w.heap.size w (w.alloc (.cells #[.slice none 0 0] 29)) := (Below.refl _ _).alloc (Nat.le_refl _) _
  have HC0 := Lib.hid (hc.keepB hb0 hcw)
  have HY0 := Lib.hid (hb.keepB hb0 (Nat.le_of_lt hcw))
  have HX0 := Lib.hid (BoxAt.new w (.slice none 0 0) 29)
  have HT0 : Hid (Touched c (c + 1) w (w.alloc (.cells #[.slice none 0 0] 29))) := Touched.ofBelow hb0
  clear hc hb hb0
  go_enter Tryd.func125, Tryd.ntmps125
  go_wp2_with fail
  refine (l1DrawAny_any c nb bv _ HC0.out HY0.out).mono ?_
  rintro e w2 ⟨L, m, a, cap, rfl, ho2, hc2, ht2, hm17⟩
  obtain rfl : m = L.length := by
    obtain ⟨a3, c3, e3⟩ := ho2.grid.slice
    simp only [Value.slice.injEq] at e3
    exact e3.2.1
  have hst : Below w2.heap.size w2 (w2.alloc (.cells #[.slice a L.length cap] 29)) := (Below.refl _ _).alloc (Nat.le_refl _) _
  have hs2 := ht2.size
  rw [size_alloc1] at ho2 hs2
  have HLA : Hid (LaidC w (w2.alloc (.cells #[.slice a L.length cap] 29)) c nb bv (.slice a L.length cap) L w2.heap.size) :=
    ⟨hc2.keepB hst hc2.lt, (ht2.bytes HY0.out (by simp; omega)).keepB hst (Nat.le_of_lt hc2.lt), ho2.keep hst, BoxAt.new _ _ _, (HX0.out.touched ht2 (by omega) (by simp)).keep hst, (HT0.out.trans ht2).under hst (by omega), by omega, hcw⟩
  have kb := HLA.out.box.1
  clear ho2 hc2 ht2 hst HC0 HY0 HX0 HT0
  go_wp2_with fail
  generalize (w2.alloc (.cells #[.slice a L.length cap] 29)) = W at HLA kb ⊢
  refine (l1From_wide c nb L.length bv _ hm17 HLA.out.cur HLA.out.byt).mono ?_
  rintro e w3 ⟨y, rfl, hy, hc3, ho3⟩
  have HL3 := Lib.hid (HLA.out.only ho3 hc3)
  have HLD := Lib.hid HL3.out.drew
  have kbd := HLD.out.box.1
  have hyI : I64 y := by unfold I64; omega
  clear hc3 ho3 HLA kb hy
  go_wp2_with fail
  go_region_law (first
    | (go_simp; go_at_call 141; refine (l1From_wide c nb L.length bv _ hm17 HLD.out.cur HLD.out.byt).mono ?_; rintro e w4 ⟨z, rfl, hz, hc4, ho4⟩; have HL4 := Lib.hid (HLD.out.only ho4 hc4); have kb4 := HL4.out.box.1; have kr4 := HL4.out.res.1; have kf4 := HL4.out.res.2; have HQ := Lib.hid (cell_set_same (.slice a L.length cap) kr4); have hzI : I64 z := (by unfold I64; omega); clear hc4 ho4 hz))
  all_goals (
    go_wp2
    refine bodyPost_ret (v := .tuple #[.agg #[.slice a L.length cap], .int .i64 y, .int .i64 z]) (by simp [results, Tryd.results125, go_sem, HQ.out]) rfl ⟨L, L.length, a, cap, y, z, rfl, (HL4.out.grid.setBelow (by simp) _).mono (by omega), hyI, hzI, ?_, HL4.out.tou.set (by simp) _, hm17⟩
    obtain ⟨i, hh, hi, hcell⟩ := HL4.out.cur
    exact ⟨i, hh, hi, by rw [heap_setCell_other _ _ _ _ (by simp; omega)]; exact hcell⟩)

/-- A call has handed back some graph and two numbers, and has turned nothing that was there. -/
def GaveGUV (w : World) (e : Ending) (w' : World) : Prop :=
  ∃ L n a cap u v, e = .returned (.tuple #[.agg #[.slice a n cap], .int .i64 u, .int .i64 v]) ∧ OwnGrid 2 36 w' w.heap.size (.slice a n cap) L ∧ I64 u ∧ I64 v ∧ Below w.heap.size w w'

end Go.Proofs.YtjbfoiolcpigfaaDoor

/- Walks: a graph and two vertices drawn, often an edge. -/
namespace Go.Proofs.YtjbfoiolcpigfaaDoor
open Go.RowKit

set_option maxHeartbeats 4000000 in
set_option maxRecDepth 100000 in
theorem drawCutEdge_any (n : Nat) (bv : Value) (w : World) (hb : BytesAt w w.heap.size bv n) : Calls Tryd.prog 82 #[bv] w (GaveGUV w) := by
  have hb0 : Below w.heap.size w (w.alloc (.cells #[.slice none 0 0] 29)) := (Below.refl _ _).alloc (Nat.le_refl _) _
  have hbx0 : BoxAt (w.alloc (.cells #[.slice none 0 0] 29)) w.heap.size (.slice none 0 0) := BoxAt.new _ _ _
  have hby0 : BytesAt (w.alloc (.cells #[.slice none 0 0] 29)) (w.alloc (.cells #[.slice none 0 0] 29)).heap.size bv n := (hb.keepB hb0 (Nat.le_refl _)).wide (by simp)
  have HB0 := Lib.hid hb0
  have HBX0 := Lib.hid hbx0
  have HBY0 := Lib.hid hby0
  clear hb hb0 hbx0 hby0
  go_enter Tryd.func82, Tryd.ntmps82
  go_wp2_with fail
  refine (l1New_any n bv _ HBY0.out).mono ?_
  rintro e w1 ⟨rfl, hc1, hb1⟩
  have HB1 : Hid (Below w.heap.size w w1) := HB0.out.trans (hb1.mono HB0.out.size)
  have HX1 : Hid (BoxAt w1 w.heap.size (.slice none 0 0)) := HBX0.out.keep hb1
  have HY1 := Lib.hid (HBY0.out.keepB hb1 (Nat.le_refl _))
  rw [size_alloc1] at hc1 HY1
  have HC1 := Lib.hid hc1
  have hs1 := hc1.lt
  clear hc1 hb1 HBY0
  go_wp2_with fail
  refine (l1DrawPair_any (w.heap.size + 1) n bv w1 HC1.out HY1.out).mono ?_
  rintro e w2 ⟨L, m, a, cap, u, v, rfl, ho2, hu, hv, hc2, ht2, hm17⟩
  obtain rfl : m = L.length := by
    obtain ⟨a3, c3, e3⟩ := ho2.grid.slice
    simp only [Value.slice.injEq] at e3
    exact e3.2.1
  have hst : Below w2.heap.size w2 (w2.alloc (.cells #[.slice a L.length cap] 29)) := (Below.refl _ _).alloc (Nat.le_refl _) _
  have hs2 : w1.heap.size ≤ w2.heap.size := ht2.size
  have hlow : w.heap.size + 1 < w1.heap.size := hs1
  have HC3 := Lib.hid (hc2.keepB hst hc2.lt)
  have HY3 := Lib.hid ((ht2.bytes HY1.out (by omega)).keepB hst (Nat.le_of_lt hc2.lt))
  have HO3 := Lib.hid (ho2.keep hst)
  have HX3 := Lib.hid ((HX1.out.touched ht2 (by omega) (by omega)).keep hst)
  have BX3 := Lib.hid (BoxAt.new w2 (.slice a L.length cap) 29)
  have HB3 : Hid (Below w.heap.size w (w2.alloc (.cells #[.slice a L.length cap] 29))) := (HB1.out.trans ((ht2.below (by omega)).mono (by omega))).trans (hst.mono (by omega))
  have kb3 := BX3.out.1
  clear ho2 hc2 ht2 hst HC1 HY1 HX1 HB1 HB0 HBX0
  go_wp2_with fail
  have hs3 : (w2.alloc (.cells #[.slice a L.length cap] 29)).heap.size = w2.heap.size + 1 := size_alloc1 _ _
  have HS3 := Lib.hid hs3
  clear hs3
  generalize hW : (w2.alloc (.cells #[.slice a L.length cap] 29)) = W at HC3 HY3 HO3 HX3 BX3 HB3 HS3 kb3 ⊢
  have hWs : w2.heap.size + 1 ≤ W.heap.size := by have := HS3.out; omega
  clear hW
  refine (specEdgesOf_any _ L _ HO3.out.grid).mono ?_
  rintro e w4 ⟨n4, a4, c4, rfl, ho4, hb4⟩
  obtain rfl : n4 = (edgesL L).length := by
    obtain ⟨a3, c3, e3⟩ := ho4.grid.slice
    simp only [Value.slice.injEq] at e3
    exact e3.2.1
  have hle : (edgesL L).length ≤ 1048576 := (edgesL_small L).1
  have HC4 := Lib.hid (HC3.out.keepB hb4 HC3.out.lt)
  have HY4 := Lib.hid (HY3.out.keepB hb4 (Nat.le_of_lt HC3.out.lt))
  have HO4 := Lib.hid (HO3.out.keep hb4)
  have HX4 := Lib.hid (HX3.out.keep hb4)
  have BX4 := Lib.hid (BX3.out.keep hb4)
  have HB4 : Hid (Below w.heap.size w w4) := HB3.out.trans (hb4.mono HB3.out.size)
  have HE4 := Lib.hid ho4
  have hs4 : W.heap.size ≤ w4.heap.size := hb4.size
  clear ho4 hb4 HC3 HY3 HO3 HX3 BX3 HB3 kb3
  -- what is handed back where no edge is taken
  have fin : ∀ w9, OwnGrid 2 36 w9 w1.heap.size (.slice a L.length cap) L → Below w.heap.size w w9 → ∀ x y, I64 x → I64 y → GaveGUV w (.returned (.tuple #[.agg #[.slice a L.length cap], .int .i64 x, .int .i64 y])) (w9.setCell ⟨w.heap.size, 0, none⟩ (.slice a L.length cap)) := fun w9 ho hb x y hx hy =>
    ⟨L, L.length, a, cap, x, y, rfl, (ho.setBelow (by simp; omega) _).mono (by omega), hx, hy, hb.setCell (Nat.le_refl _) _⟩
  have FIN := Lib.hid fin
  clear fin
  by_cases h0 : (edgesL L).length = 0
  · have kb4 := BX4.out.1
    have kr4 := HX4.out.1
    have kf4 := HX4.out.2
    have HQ := Lib.hid (cell_set_same (.slice a L.length cap) kr4)
    rw [h0]
    clear h0
    go_wp2
    refine bodyPost_ret (v := .tuple #[.agg #[.slice a L.length cap], .int .i64 u, .int .i64 v]) (by simp [results, Tryd.results82, go_sem, HQ.out]) rfl ?_
    exact FIN.out _ HO4.out HB4.out u v hu hv
  have hpos : 0 < (edgesL L).length := by omega
  have hposI : (0 : Int) < ((edgesL L).length : Int) := by omega
  have hG : GraphP L := by
    rcases Classical.em (GraphP L) with hG | hG
    · exact hG
    · unfold edgesL at hpos; rw [if_neg hG] at hpos; simp at hpos
  have HG := Lib.hid hG
  have HEE : Hid (edgesL L = edgesTo L L.length) := by show _ = _; unfold edgesL; rw [if_pos hG]
  have hzz := hG.1
  clear h0 hG
  go_wp2_with fail
  refine (l1Once_any (w.heap.size + 1) n bv 3 _ HC4.out HY4.out (by unfold I64; omega)).mono ?_
  rintro e w5 ⟨co, rfl, hc5, ho5⟩
  have hne : ∀ k, w1.heap.size ≤ k → k ≠ w.heap.size + 1 := fun k hk => by omega
  have ht5 : Touched (w.heap.size + 1) (w.heap.size + 1 + 1) w4 w5 := ho5.touched (Nat.le_refl _) (Nat.lt_succ_self _)
  have HC5 := Lib.hid hc5
  have HY5 := Lib.hid (ht5.bytes HY4.out (Nat.le_of_lt HC4.out.lt))
  have HO5 := Lib.hid (HO4.out.touched ht5 (by omega))
  have HX5 := Lib.hid (HX4.out.only ho5 (by omega))
  have BX5 := Lib.hid (BX4.out.only ho5 (by omega))
  have HE5 := Lib.hid (HE4.out.touched ht5 (by omega))
  have HB5 : Hid (Below w.heap.size w w5) := HB4.out.trans ((ht5.below (by omega)).mono (by omega))
  have hs5 : w4.heap.size ≤ w5.heap.size := ht5.size
  clear hc5 ho5 ht5 HC4 HY4 HO4 HX4 BX4 HE4 HB4
  cases co with
  | true =>
    have kb4 := BX5.out.1
    have kr4 := HX5.out.1
    have kf4 := HX5.out.2
    have HQ := Lib.hid (cell_set_same (.slice a L.length cap) kr4)
    go_wp2
    refine bodyPost_ret (v := .tuple #[.agg #[.slice a L.length cap], .int .i64 u, .int .i64 v]) (by simp [results, Tryd.results82, go_sem, HQ.out]) rfl ?_
    exact FIN.out _ HO5.out HB5.out u v hu hv
  | false =>
    go_wp2_with fail
    refine (l1Below_any (w.heap.size + 1) n bv _ _ HC5.out HY5.out (by unfold I64; omega)).mono ?_
    rintro e w6 ⟨x, rfl, hx, hc6, ho6⟩
    obtain ⟨hx0, hx1⟩ := hx.2 (by omega)
    obtain ⟨q, rfl⟩ : ∃ q : Nat, x = (q : Int) := ⟨x.toNat, by omega⟩
    have hq : q < (edgesL L).length := by omega
    have ht6 : Touched (w.heap.size + 1) (w.heap.size + 1 + 1) w5 w6 := ho6.touched (Nat.le_refl _) (Nat.lt_succ_self _)
    have HO6 := Lib.hid (HO5.out.touched ht6 (by omega))
    have HX6 := Lib.hid (HX5.out.only ho6 (by omega))
    have BX6 := Lib.hid (BX5.out.only ho6 (by omega))
    have HE6 := Lib.hid (HE5.out.touched ht6 (by omega))
    have HB6 : Hid (Below w.heap.size w w6) := HB5.out.trans ((ht6.below (by omega)).mono (by omega))
    obtain ⟨ge, ce, e2, hgeB, hgel, hpl⟩ := HE6.out.place (by omega)
    simp only [Value.slice.injEq, true_and] at e2
    obtain ⟨rfl, rfl⟩ := e2
    obtain ⟨be, oe, ce', _, _, ee, hl1, hl2', _⟩ := HE6.out.grid.pos (by omega)
    simp only [Value.slice.injEq, Option.some.injEq, Addr.mk.injEq, and_true, true_and] at ee
    obtain ⟨⟨rfl, rfl⟩, rfl⟩ := ee
    obtain ⟨ar, nr, cr, hck, _, hrk⟩ := hpl q hq
    obtain ⟨p, hpn, y', hyr, hux, he⟩ := (edgesTo_mem L.length (nthR (edgesL L) q)).1 (by rw [← HEE.out]; exact nthR_mem hq)
    have hxr := graph_range HG.out hpn hyr
    rw [he] at hrk
    obtain ⟨g2, c2', e3, hg2B, hg2l, l3, l4⟩ := hrk.posB (by simp)
    have hl2 : ([(p : Int), y'] : List Int).length = 2 := rfl
    rw [hl2] at e3 l3
    rw [e3] at hck hrk
    have k0 : w6.cell? ⟨g2, 0, none⟩ = some (.int .i64 (p : Int)) := hrk.cells' 0 (by simp)
    have k1 : w6.cell? ⟨g2, 1, none⟩ = some (.int .i64 y') := hrk.cells' 1 (by simp)
    have hyI : I64 y' := by unfold I64; omega
    have hpI : I64 (p : Int) := by unfold I64; omega
    have kb4 := BX6.out.1
    have kr4 := HX6.out.1
    have kf4 := HX6.out.2
    have HQ : Hid ((w6.setCell ⟨w.heap.size, 0, none⟩ (.slice a L.length cap)).cell? ⟨w.heap.size, 0, none⟩ = some (.slice a L.length cap)) := cell_set_same (.slice a L.length cap) kr4
    have k0s : (w6.setCell ⟨w.heap.size, 0, none⟩ (.slice a L.length cap)).cell? ⟨g2, 0, none⟩ = some (.int .i64 (p : Int)) := cell_set_blk _ (by simp; omega) k0
    have k1s : (w6.setCell ⟨w.heap.size, 0, none⟩ (.slice a L.length cap)).cell? ⟨g2, 1, none⟩ = some (.int .i64 y') := cell_set_blk _ (by simp; omega) k1
    have kbs : (w6.setCell ⟨w.heap.size, 0, none⟩ (.slice a L.length cap)).cell? ⟨w2.heap.size, 0, none⟩ = some (.slice a L.length cap) := cell_set_blk _ (by simp; omega) kb4
    have HF : Hid (∀ wz, Below (w6.setCell ⟨w.heap.size, 0, none⟩ (.slice a L.length cap)).heap.size (w6.setCell ⟨w.heap.size, 0, none⟩ (.slice a L.length cap)) wz → GaveGUV w (.returned (.tuple #[.agg #[.slice a L.length cap], .int .i64 y', .int .i64 (p : Int)])) wz) := fun wz hz => by
      obtain ⟨L', n', a', c', x', z', e', h1, h2, h3, h4⟩ := FIN.out w6 HO6.out HB6.out y' (p : Int) hyI hpI
      exact ⟨L', n', a', c', x', z', e', h1.keep hz, h2, h3, h4.trans (hz.mono h4.size)⟩
    clear hc6 ho6 ht6 hx hx0 hx1 hpl hrk he e3 hl2 hyr HC5 HY5 HO5 HX5 BX5 HE5 HB5
    go_wp2
    go_region
    all_goals go_wp2
    all_goals refine bodyPost_ret (v := .tuple #[.agg #[.slice a L.length cap], .int .i64 y', .int .i64 (p : Int)]) (by simp [results, Tryd.results82, go_sem, HQ.out]) rfl ?_
    all_goals (first | exact HF.out _ (Below.refl _ _).drew | exact HF.out _ (Below.refl _ _) | exact HF.out _ (below_drewN (Below.refl _ _) _))

theorem drawContracted_any (n : Nat) (bv : Value) (w : World) (hb : BytesAt w w.heap.size bv n) : Calls Tryd.prog 28 #[bv] w (GaveGUV w) := by
  have hb0 : Below w.heap.size w (w.alloc (.cells #[.slice none 0 0] 29)) := (Below.refl _ _).alloc (Nat.le_refl _) _
  have HX0 := Lib.hid (BoxAt.new w (.slice none 0 0) 29)
  have HY0 : Hid (BytesAt (w.alloc (.cells #[.slice none 0 0] 29)) (w.alloc (.cells #[.slice none 0 0] 29)).heap.size bv n) := (hb.keepB hb0 (Nat.le_refl _)).wide (by simp)
  have HB0 := Lib.hid hb0
  clear hb hb0
  go_enter Tryd.func28, Tryd.ntmps28
  go_wp2_with fail
  refine (drawCutEdge_any n bv _ HY0.out).mono ?_
  rintro e w1 ⟨L, m, a, cap, u, v, rfl, hg, hu, hv, hb1⟩
  have hx1 := HX0.out.keep hb1
  have kr := hx1.1
  have kf := hx1.2
  have HQ := Lib.hid (cell_set_same (.slice a m cap) kr)
  rw [size_alloc1] at hg
  have HF : Hid (GaveGUV w (.returned (.tuple #[.agg #[.slice a m cap], .int .i64 u, .int .i64 v])) (w1.setCell ⟨w.heap.size, 0, none⟩ (.slice a m cap))) :=
    ⟨L, m, a, cap, u, v, rfl, (hg.setBelow (by simp) _).mono (by omega), hu, hv, (HB0.out.trans (hb1.mono (by simp))).setCell (Nat.le_refl _) _⟩
  clear hg hb1 hx1
  go_wp2
  refine bodyPost_ret (v := .tuple #[.agg #[.slice a m cap], .int .i64 u, .int .i64 v]) (by simp [results, Tryd.results28, go_sem, HQ.out]) rfl ?_
  exact HF.out

end Go.Proofs.YtjbfoiolcpigfaaDoor
