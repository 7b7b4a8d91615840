/- The texts B4, B5, joined. -/
import Derived.Test.YtohjfcfcopbmoaaQB1
import Derived.Laws.ResultCell

/- Plain facts: the net of a valid graph. -/
namespace Go.Proofs.Ytohjfcfcopbmoaa
open Go.RowKit

theorem hasB_iff (xs : List Int) (n : Int) : hasB xs n = true ↔ ∃ i, i < xs.length ∧ nth xs i = n := by simp [hasB]

theorem hasM_mask {xs : List Int} {n : Int} (h : SetP xs n) (u : Nat) (hu : u < 16) : hasM (maskTo xs xs.length) u = hasB xs u := by
  have hb := maskTo_bit xs xs.length u (fun j hj => (h j hj).1)
  rw [Bool.eq_iff_iff, hasB_iff]
  unfold hasM
  rw [Bool.and_eq_true, decide_eq_true_iff, Int.toNat_natCast, hb]
  constructor
  · rintro ⟨_, h⟩; exact h
  · intro h; exact ⟨by omega, h⟩

/-- The masks of a graph's rows. -/
def rowM (L : List (List Int)) (i : Nat) : Nat := if i < L.length then maskTo (nthR L i) (nthR L i).length else 0

theorem rowM_lt {L : List (List Int)} (hn : L.length ≤ 16) (h : ∀ v, v < L.length → SetP (nthR L v) L.length) (i : Nat) : rowM L i < 65536 := by
  unfold rowM
  split
  · rename_i hi
    exact maskTo_lt (n := L.length) (fun j hj => ⟨(h i hi j hj).1, (h i hi j hj).2.1⟩) (by omega) _ (Nat.le_refl _)
  · omega

theorem rowM_has {L : List (List Int)} (h : ∀ v, v < L.length → SetP (nthR L v) L.length) {v u : Nat} (hv : v < L.length) (hu : u < 16) : hasM (rowM L v) u = hasB (nthR L v) u := by
  rw [rowM, if_pos hv]
  exact hasM_mask (h v hv) u hu

theorem simple_iff {L : List (List Int)} (hn : 1 ≤ L.length ∧ L.length ≤ 16) (h : ∀ v, v < L.length → SetP (nthR L v) L.length) : SimpleP L.length (rowM L) ↔ GraphP L := by
  have key : ∀ v u, v < L.length → u < L.length → hasM (rowM L v) (u : Nat) = hasB (nthR L v) u := fun v u hv hu => rowM_has h hv (by omega)
  constructor
  · intro hs
    refine ⟨hn, fun v hv => ⟨h v hv, ?_⟩, fun v hv i hi => ?_⟩
    · rw [← key v v hv hv]; exact (hs v hv).1
    · have hst := h v hv i hi
      obtain ⟨h1, h2, -⟩ := hst
      generalize hx : nth (nthR L v) i = x at *
      have hmem : hasB (nthR L v) x = true := (hasB_iff _ _).2 ⟨i, hi, hx⟩
      obtain ⟨u, rfl⟩ := Int.eq_ofNat_of_zero_le h1
      rw [Int.toNat_natCast]
      have hu : u < L.length := by omega
      rcases Nat.lt_trichotomy u v with hlt | heq | hgt
      · have := (hs v hv).2 u hlt
        rw [key u v hu hv, key v u hv hu] at this
        rw [this]; exact hmem
      · subst heq
        have := (hs u hu).1
        rw [key u u hu hu, hmem] at this
        exact absurd this (by simp)
      · have := (hs u hu).2 v hgt
        rw [key u v hu hv, key v u hv hu] at this
        rw [← this]; exact hmem
  · rintro ⟨_, h1, h2⟩ v hv
    refine ⟨?_, fun u hlt => ?_⟩
    · rw [key v v hv hv]; exact (h1 v hv).2
    · have hu : u < L.length := by omega
      rw [key u v hu hv, key v u hv hu, Bool.eq_iff_iff]
      constructor
      · intro hh
        obtain ⟨i, hi, e⟩ := (hasB_iff _ _).1 hh
        have := h2 u hu i hi
        rw [e, Int.toNat_natCast] at this
        exact this
      · intro hh
        obtain ⟨i, hi, e⟩ := (hasB_iff _ _).1 hh
        have := h2 v hv i hi
        rw [e, Int.toNat_natCast] at this
        exact this

/-- The cells of a net. -/
def netArr (n : Nat) (M : Nat → Nat) : Array Value :=
  #[.int .i64 n, .int .u32 (M 0 : Int), .int .u32 (M 1 : Int), .int .u32 (M 2 : Int), .int .u32 (M 3 : Int), .int .u32 (M 4 : Int), .int .u32 (M 5 : Int), .int .u32 (M 6 : Int), .int .u32 (M 7 : Int), .int .u32 (M 8 : Int),
    .int .u32 (M 9 : Int), .int .u32 (M 10 : Int), .int .u32 (M 11 : Int), .int .u32 (M 12 : Int), .int .u32 (M 13 : Int), .int .u32 (M 14 : Int), .int .u32 (M 15 : Int)]
theorem netArr_size (n : Nat) (M : Nat → Nat) : (netArr n M).size = 17 := rfl
theorem netArr_one (n : Nat) (M : Nat → Nat) : (netArr n M).all (·.oneCell') = true := by simp [netArr, Value.oneCell']
theorem netArr_zero (n : Nat) (M : Nat → Nat) : (netArr n M)[0]? = some (.int .i64 n) := rfl
theorem netArr_get (n : Nat) (M : Nat → Nat) (i : Nat) (hi : i < 16) : (netArr n M)[1 + i]? = some (.int .u32 (M i : Int)) := by
  have h : i = 0 ∨ i = 1 ∨ i = 2 ∨ i = 3 ∨ i = 4 ∨ i = 5 ∨ i = 6 ∨ i = 7 ∨ i = 8 ∨ i = 9 ∨ i = 10 ∨ i = 11 ∨ i = 12 ∨ i = 13 ∨ i = 14 ∨ i = 15 := by omega
  rcases h with rfl | rfl | rfl | rfl | rfl | rfl | rfl | rfl | rfl | rfl | rfl | rfl | rfl | rfl | rfl | rfl <;> rfl
theorem netArr_eq {cs : Array Value} {n : Nat} {M : Nat → Nat} (hs : cs.size = 17) (h0 : cs[0]? = some (.int .i64 n)) (h : ∀ i, i < 16 → cs[1 + i]? = some (.int .u32 (M i : Int))) : cs = netArr n M := by
  apply Array.ext_getElem?
  intro j
  match j with
  | 0 => rw [h0, netArr_zero]
  | j + 1 =>
    by_cases hj : j < 16
    · rw [Nat.add_comm, h j hj, netArr_get n M j hj]
    · rw [Array.getElem?_eq_none (by omega), Array.getElem?_eq_none (by rw [netArr_size]; omega)]
theorem netArr_congr {n n' : Nat} {M M' : Nat → Nat} (hn : n = n') (h : ∀ i, i < 16 → M i = M' i) : netArr n M = netArr n' M' :=
  netArr_eq (by rw [netArr_size]) (by rw [netArr_zero, hn]) (fun i hi => by rw [netArr_get n M i hi, h i hi])

theorem netArr_set (n : Nat) (M : Nat → Nat) (i m : Nat) (hi : i < 16) : (netArr n M).setIfInBounds (1 + i) (.int .u32 (m : Int)) = netArr n (fun j => if j = i then m else M j) := by
  refine netArr_eq (by rw [Array.size_setIfInBounds, netArr_size]) ?_ (fun j hj => ?_)
  · rw [Array.getElem?_setIfInBounds, if_neg (by omega), netArr_zero]
  · rw [Array.getElem?_setIfInBounds]
    by_cases e : j = i
    · subst e
      rw [if_pos rfl, if_pos (by rw [netArr_size]; omega)]
      simp
    · rw [if_neg (by omega), netArr_get n M j hj]
      simp [e]

/-- Block g is a net's: n vertices, masks M; it is not frozen. T: the net type's number. -/
def NetBlk (T : TypeId) (w : World) (g n : Nat) (M : Nat → Nat) : Prop := w.heap[g]? = some (.cells (netArr n M) T (0, 0))
theorem NetBlk.at {T : TypeId} {w : World} {g n : Nat} {M : Nat → Nat} (h : NetBlk T w g n M) : NetAt w g n M :=
  ⟨by rw [cell_of_row w g 0 _ _ _ h, netArr_zero], fun i hi => by rw [cell_of_row w g _ _ _ _ h, netArr_get n M i hi]⟩
theorem NetBlk.frozen {T : TypeId} {w : World} {g n : Nat} {M : Nat → Nat} (h : NetBlk T w g n M) (i : Nat) : w.frozen? ⟨g, i, none⟩ = false := frozen_of_row w g i _ T h
theorem NetBlk.lt {T : TypeId} {w : World} {g n : Nat} {M : Nat → Nat} (h : NetBlk T w g n M) : g < w.heap.size := by
  obtain ⟨hlt, _⟩ := Array.getElem?_eq_some_iff.1 h
  exact hlt
theorem NetBlk.keep {T : TypeId} {w w' : World} {g n : Nat} {M : Nat → Nat} (h : NetBlk T w g n M) (hb : Below w.heap.size w w') : NetBlk T w' g n M := by
  unfold NetBlk
  rw [hb.block g h.lt]; exact h
theorem NetBlk.keepB {T : TypeId} {w w' : World} {B g n : Nat} {M : Nat → Nat} (h : NetBlk T w g n M) (hb : Below B w w') (hg : g < B) : NetBlk T w' g n M := by
  unfold NetBlk
  rw [hb.block g hg]; exact h
theorem NetBlk.drawn {T : TypeId} {w w' : World} {g n : Nat} {M : Nat → Nat} (h : NetBlk T w g n M) (hb : Drawn w w') : NetBlk T w' g n M := h.keep (hb.below _)
theorem NetBlk.set {T : TypeId} {w : World} {g n : Nat} {M : Nat → Nat} (h : NetBlk T w g n M) (i m : Nat) (hi : i < 16) : NetBlk T (w.setCell ⟨g, 1 + i, none⟩ (.int .u32 (m : Int))) g n (fun j => if j = i then m else M j) := by
  unfold NetBlk
  rw [heap_setCell_same w g (1 + i) _ T _ h, netArr_set n M i m hi]
theorem NetBlk.setOther {T : TypeId} {w : World} {g n : Nat} {M : Nat → Nat} (h : NetBlk T w g n M) {a : Addr} (ha : g ≠ a.block) (u : Value) : NetBlk T (w.setCell a u) g n M := by
  unfold NetBlk
  rw [heap_setCell_other _ _ _ _ ha]; exact h
theorem NetBlk.congr {T : TypeId} {w : World} {g n n' : Nat} {M M' : Nat → Nat} (h : NetBlk T w g n M) (hn : n = n') (hM : ∀ i, i < 16 → M i = M' i) : NetBlk T w g n' M' := by
  unfold NetBlk
  rw [← netArr_congr hn hM]; exact h

/-- A store of a whole net into block g: what lies elsewhere stays. -/
structure NetPut (T : TypeId) (w w' : World) (g n : Nat) (M : Nat → Nat) : Prop where
  os : w'.os = w.os
  tape : w'.tape = w.tape
  output : w'.output = w.output
  size : w'.heap.size = w.heap.size
  net : NetBlk T w' g n M
  other : ∀ k, k ≠ g → w'.heap[k]? = w.heap[k]?
theorem NetPut.below {T : TypeId} {w w' : World} {g n : Nat} {M : Nat → Nat} (h : NetPut T w w' g n M) : Below g w w' :=
  ⟨h.os, h.tape, h.output, Nat.le_of_eq h.size.symm, fun k hk => h.other k (by omega)⟩
theorem NetPut.cell {T : TypeId} {w w' : World} {g n : Nat} {M : Nat → Nat} (h : NetPut T w w' g n M) {a : Addr} (ha : a.block ≠ g) : w'.cell? a = w.cell? a := World.cell?_of_block (w := w) (h.other _ ha)

theorem wpList_store_net {P : Program} {ops : Array Oper} {rest : List Oper} {o : Oper} {a : Act} {w : World} {Q : Exit → Act → World → Prop} (hgd : o.guard = none) (ty : TypeId) (x y : Operand) (ho : o.op = .store ty x y)
    (g n : Nat) (M : Nat → Nat) (hx : a.eval x = .pointer (some ⟨g, 0, none⟩)) (hy : a.eval y = .agg (netArr n M)) (hi : (P.info? ty).map (·.size) = some 17)
    (n0 : Nat) (M0 : Nat → Nat) (hg : NetBlk ty w g n0 M0)
    (h : ∀ w', NetPut ty w w' g n M → wpList P ops Q rest (a.put o.dst undef) w') : wpList P ops Q (o :: rest) a w := by
  refine wpList_store_row hgd ty x y ho g (netArr n M) hx hy ty (netArr n0 M0) hg (by rw [hi, netArr_size]) (by rw [netArr_size, netArr_size]) (netArr_one _ _) (h _ ?_)
  exact ⟨rfl, rfl, rfl, size_setRow _ _ _, setRow_heap w g _ _ ty _ hg, fun k hk => setRow_other w g k _ hk⟩

theorem wpList_load_net {P : Program} {ops : Array Oper} {rest : List Oper} {o : Oper} {a : Act} {w : World} {Q : Exit → Act → World → Prop} (hgd : o.guard = none) (ty : TypeId) (x : Operand) (ho : o.op = .load ty x)
    (g n : Nat) (M : Nat → Nat) (hx : a.eval x = .pointer (some ⟨g, 0, none⟩)) (hi : (P.info? ty).map (·.size) = some 17) (d : TypeDesc) (hu : P.underlying ty = some d) (hd : (match d with | .struct _ | .array _ _ => true | _ => false) = true)
    (hg : NetBlk ty w g n M)
    (h : wpList P ops Q rest (a.put o.dst (.agg (netArr n M))) w) : wpList P ops Q (o :: rest) a w :=
  wpList_load_row hgd ty x ho g hx ty (netArr n M) (0, 0) d hg hu hd (by rw [hi, netArr_size]) h

theorem results_net {P : Program} {fn : Func} {p u : Tmp} {ty : TypeId} (h : fn.results = #[.cell p ty, .tmp u]) (tmps : Array Value) (w : World) (g n : Nat) (M : Nat → Nat) (d : TypeDesc)
    (hp : tmps.getD p undef = .pointer (some ⟨g, 0, none⟩)) (hg : NetBlk ty w g n M) (hi : (P.info? ty).map (·.size) = some 17) (hu : P.underlying ty = some d) (hd : (match d with | .struct _ | .array _ _ => true | _ => false) = true) :
    (results fn tmps).run P w = .ok (.tuple #[.agg (netArr n M), tmps.getD u undef]) w := by
  rw [results_cell_tmp h tmps P w, hp]
  have h1 := run_loadVar_row (P := P) w g ty ty (netArr n M) (0, 0) d hg hu hd (by rw [hi, netArr_size])
  simp [asAddr, h1, Result.andThen]

/-- The net that a graph has: of an invalid one the zero net. -/
def netN (L : List (List Int)) : Nat := if GraphP L then L.length else 0
def netM (L : List (List Int)) (i : Nat) : Nat := if GraphP L then rowM L i else 0
theorem netN_yes {L : List (List Int)} (h : GraphP L) : netN L = L.length := if_pos h
theorem netM_yes {L : List (List Int)} (h : GraphP L) (i : Nat) : netM L i = rowM L i := if_pos h
theorem netN_no {L : List (List Int)} (h : ¬ GraphP L) : netN L = 0 := if_neg h
theorem netM_no {L : List (List Int)} (h : ¬ GraphP L) (i : Nat) : netM L i = 0 := if_neg h
theorem netArr_yes {L : List (List Int)} (h : GraphP L) : netArr (netN L) (netM L) = netArr L.length (rowM L) := netArr_congr (netN_yes h) (fun i _ => netM_yes h i)
theorem netArr_no {L : List (List Int)} (h : ¬ GraphP L) : netArr (netN L) (netM L) = netArr 0 (fun _ => 0) := netArr_congr (netN_no h) (fun i _ => netM_no h i)

/-- What netOf hands back. -/
def GaveNet (w : World) (L : List (List Int)) (e : Ending) (w' : World) : Prop :=
  e = .returned (.tuple #[.agg (netArr (netN L) (netM L)), .bool (decide (GraphP L))]) ∧ Below w.heap.size w w'

end Go.Proofs.Ytohjfcfcopbmoaa

/- Walks: the net of a graph. -/
namespace Go.Proofs.Ytohjfcfcopbmoaa
open Go.RowKit

theorem Try.sizeNet : (Try.prog.info? 61).map (·.size) = some 17 := by kernel_rfl

theorem netRet {L : List (List Int)} {w w' : World} {act : Act} (n : Nat) (M : Nat → Nat) (ok : Bool) (g : Nat) (hp : act.tmps.getD 2 undef = .pointer (some ⟨g, 0, none⟩)) (ho : act.tmps.getD 3 undef = .bool ok) (hg : NetBlk 61 w' g n M)
    (hd : act.defers = []) (hpost : GaveNet w L (.returned (.tuple #[.agg (netArr n M), .bool ok])) w') : bodyPost Try.prog Try.f60 (GaveNet w L) Exit.ret act w' := by
  refine bodyPost_ret (v := .tuple #[.agg (netArr n M), .bool ok]) ?_ hd hpost
  rw [results_net Try.results60 act.tmps w' g n M _ hp hg Try.sizeNet Try.underlying61 rfl, ho]

set_option maxHeartbeats 1000000 in
set_option maxRecDepth 100000 in
theorem netOf_any (v : Value) (L : List (List Int)) (w : World) (h : GridAt w v L) :
    Calls Try.prog 60 #[.agg #[v]] w (GaveNet w L) := by
  have hl := h.len
  unfold maxLen at hl
  by_cases hsz : inB L.length 1 16 = true
  · have hsz' : (1 : Int) ≤ L.length ∧ (L.length : Int) ≤ 16 := by simpa [inB] using hsz
    obtain ⟨hz1, hz2⟩ := hsz'
    have HS := Lib.hid hsz
    clear hsz
    obtain ⟨b, o, c0, A, C, rfl, l1, l2, hc⟩ := h.pos (by omega)
    have HC := Lib.hid hc
    clear hc h
    have hg0 : NetBlk 61 (((w.alloc (.cells #[.slice (some ⟨b, o, none⟩) L.length c0] 37)).alloc (.cells (netArr 0 (fun _ => 0)) 61)).alloc (.cells (netArr 0 (fun _ => 0)) 61)) (w.heap.size + 1 + 1) 0 (fun _ => 0) := by
      have := heap_alloc_new ((w.alloc (.cells #[.slice (some ⟨b, o, none⟩) L.length c0] 37)).alloc (.cells (netArr 0 (fun _ => 0)) 61)) (.cells (netArr 0 (fun _ => 0)) 61)
      rwa [size_alloc1, size_alloc1] at this
    have hg1 : NetBlk 61 (((w.alloc (.cells #[.slice (some ⟨b, o, none⟩) L.length c0] 37)).alloc (.cells (netArr 0 (fun _ => 0)) 61)).alloc (.cells (netArr 0 (fun _ => 0)) 61)) (w.heap.size + 1) 0 (fun _ => 0) := by
      have := heap_alloc2_old (w.alloc (.cells #[.slice (some ⟨b, o, none⟩) L.length c0] 37)) (.cells (netArr 0 (fun _ => 0)) 61) (.cells (netArr 0 (fun _ => 0)) 61)
      rwa [size_alloc1] at this
    have hb0 : Below w.heap.size w (((w.alloc (.cells #[.slice (some ⟨b, o, none⟩) L.length c0] 37)).alloc (.cells (netArr 0 (fun _ => 0)) 61)).alloc (.cells (netArr 0 (fun _ => 0)) 61)) :=
      (((Below.refl _ _).alloc (Nat.le_refl _) _).alloc (by rw [size_alloc1]; omega) _).alloc (by rw [size_alloc1, size_alloc1]; omega) _
    have HG1 := Lib.hid hg1
    have HB0 := Lib.hid hb0
    clear hg1 hb0
    go_enter Try.func60, Try.ntmps60
    go_wp2_with fail
    refine (sizeOk_any _ _).mono ?_
    rintro e w' ⟨rfl, rfl⟩
    rw [HS.out]
    go_wp2_with (refine wpList_store_net rfl 61 (.tmp 5) (.tmp 18) rfl (w.heap.size + 1 + 1) L.length (fun _ => 0) rfl rfl Try.sizeNet 0 (fun _ => 0) hg0 ?_; intro w3 hp; have kb : w3.cell? ⟨w.heap.size, 0, none⟩ = some (.slice (some ⟨b, o, none⟩) L.length c0) := (hp.cell (by simp; omega)).trans (by go_simp); have HPU : Hid (NetBlk 61 w3 (w.heap.size + 1 + 1) L.length (fun _ => 0) ∧ NetBlk 61 w3 (w.heap.size + 1) 0 (fun _ => 0) ∧ Below w.heap.size w w3) := ⟨hp.net, HG1.out.keepB hp.below (by omega), HB0.out.trans (hp.below.mono (by omega))⟩; clear hp hg0 HG1 HB0)
    go_loopw [22] (fun i wr => ∃ k : Nat, k ≤ L.length ∧ i = .int .i64 k ∧ (∀ j, j < k → SetP (nthR L j) L.length) ∧ NetBlk 61 wr (w.heap.size + 1 + 1) L.length (fun i => if i < k then rowM L i else 0) ∧ NetBlk 61 wr (w.heap.size + 1) 0 (fun _ => 0) ∧ Below w.heap.size w wr) (fun i _ => L.length - (intOf i).toNat)
    case atStart => exact ⟨0, Nat.zero_le _, rfl, (fun j hj => absurd hj (by omega)), HPU.out.1.congr rfl (fun i _ => by simp), HPU.out.2.1, HPU.out.2.2⟩
    case round =>
      obtain ⟨k, hk, rfl, he, hn, hz, hb⟩ := hrel
      have HE := Lib.hid he
      have HB := Lib.hid hb
      have HN := Lib.hid hn
      have HZ := Lib.hid hz
      clear he hn hz HPU kb
      by_cases hlt : k < L.length
      · have hck := cell_keep hb (HC.out k hlt).1
        have hrk := (HC.out k hlt).2.keep hb
        have hk16 : (k : Int) < 16 := by omega
        clear hb
        go_wp2_with fail
        refine (maskOf_any _ _ _ _ hrk (by omega) hz2).mono ?_
        rintro e w4 ⟨rfl, hb4⟩
        have hn4 := HN.out.keep hb4
        have hz4 := HZ.out.keep hb4
        have HB4 : Hid (Below w.heap.size w w4) := HB.out.trans (hb4.mono HB.out.size)
        clear hb4 hrk hck
        by_cases hS : SetP (nthR L k) L.length
        · have hcc := hn4.at.2 k (by omega)
          have hcf := hn4.frozen (1 + k)
          have HN4 := Lib.hid hn4
          have HZ4 := Lib.hid hz4
          have HSS := Lib.hid hS
          rw [if_pos hS, decide_eq_true hS]
          clear hS hn4 hz4
          go_wp2
          go_roundw
          case rel =>
            refine ⟨k + 1, by omega, by go_num, (fun j hj => by rcases Nat.lt_succ_iff_lt_or_eq.1 hj with h | h; exact HE.out j h; subst h; exact HSS.out), (HN4.out.set k _ (by omega)).congr rfl (fun i hi => ?_), HZ4.out.setOther (by simp) _, HB4.out.setCell (by simp; omega) _⟩
            by_cases e : i = k
            · subst e; simp [rowM, hlt]
            · simp only [e, if_false]
              by_cases h1 : i < k
              · simp [h1, Nat.lt_succ_of_lt h1]
              · simp [h1, show ¬ i < k + 1 from by omega]
          case measure => simp [intOf]; omega
        · have hng : ¬ GraphP L := fun hg => hS ((hg.2.1 k hlt).1)
          have HP : Hid (∀ w', Below w.heap.size w w' → GaveNet w L (.returned (.tuple #[.agg (netArr 0 (fun _ => 0)), .bool false])) w') := fun w' hw' => ⟨by rw [netArr_no hng, decide_eq_false hng], hw'⟩
          rw [if_neg hS, decide_eq_false hS]
          have HN4 := Lib.hid hn4
          clear hS hng hn4
          go_wp2_with (refine wpList_store_net rfl 61 (.tmp 2) (.tmp 35) rfl (w.heap.size + 1) 0 (fun _ => 0) rfl rfl Try.sizeNet 0 (fun _ => 0) hz4 ?_; intro w5 hp)
          exact netRet 0 (fun _ => 0) false _ rfl rfl hp.net rfl (HP.out _ (HB4.out.trans (hp.below.mono (by omega))))
      · obtain rfl : k = L.length := by omega
        have hn5 : NetBlk 61 wr (w.heap.size + 1 + 1) L.length (rowM L) := HN.out.congr rfl (fun i hi => by by_cases h1 : i < L.length; simp [h1]; simp [h1, rowM])
        have hiff := simple_iff (L := L) ⟨by omega, by omega⟩ HE.out
        have hml : ∀ i, i < L.length → rowM L i < 65536 := fun i _ => rowM_lt (by omega) HE.out i
        go_wp2_with fail
        refine (simple_any _ _ _ _ hn5.at (by omega) hml).mono ?_
        rintro e w6 ⟨rfl, hd6⟩
        have hn6 := hn5.drawn hd6
        have hz6 := HZ.out.drawn hd6
        have HB6 : Hid (Below w.heap.size w w6) := HB.out.trans (hd6.below _)
        clear hn5 hd6 hml hb
        by_cases hG : GraphP L
        · have hsp := hiff.2 hG
          have HP : Hid (∀ w', Below w.heap.size w w' → GaveNet w L (.returned (.tuple #[.agg (netArr L.length (rowM L)), .bool true])) w') := fun w' hw' => ⟨by rw [netArr_yes hG, decide_eq_true hG], hw'⟩
          rw [decide_eq_true hsp]
          clear hG hsp hiff
          go_wp2_with (first | (refine wpList_load_net rfl 61 (.tmp 5) rfl (w.heap.size + 1 + 1) L.length (rowM L) rfl Try.sizeNet _ Try.underlying61 rfl hn6 ?_) | (refine wpList_store_net rfl 61 (.tmp 2) (.tmp 44) rfl (w.heap.size + 1) L.length (rowM L) rfl rfl Try.sizeNet 0 (fun _ => 0) hz6 ?_; intro w5 hp))
          exact netRet L.length (rowM L) true _ rfl rfl hp.net rfl (HP.out _ (HB6.out.trans (hp.below.mono (by omega))))
        · have hsp : ¬ SimpleP L.length (rowM L) := fun h1 => hG (hiff.1 h1)
          have HP : Hid (∀ w', Below w.heap.size w w' → GaveNet w L (.returned (.tuple #[.agg (netArr 0 (fun _ => 0)), .bool false])) w') := fun w' hw' => ⟨by rw [netArr_no hG, decide_eq_false hG], hw'⟩
          rw [decide_eq_false hsp]
          clear hG hsp hiff hn6
          go_wp2_with (refine wpList_store_net rfl 61 (.tmp 2) (.tmp 43) rfl (w.heap.size + 1) 0 (fun _ => 0) rfl rfl Try.sizeNet 0 (fun _ => 0) hz6 ?_; intro w5 hp)
          exact netRet 0 (fun _ => 0) false _ rfl rfl hp.net rfl (HP.out _ (HB6.out.trans (hp.below.mono (by omega))))
  · have hsz' : inB L.length 1 16 = false := by simpa using hsz
    have hng : ¬ GraphP L := fun hg => by have := hg.1; simp [inB] at hsz'; omega
    have HP : Hid (∀ w', Below w.heap.size w w' → GaveNet w L (.returned (.tuple #[.agg (netArr 0 (fun _ => 0)), .bool false])) w') := fun w' hw' => ⟨by rw [netArr_no hng, decide_eq_false hng], hw'⟩
    have HS := Lib.hid hsz'
    clear hsz hsz' hng
    obtain ⟨a0, c0, rfl⟩ := h.slice
    have hg1 : NetBlk 61 ((w.alloc (.cells #[.slice a0 L.length c0] 37)).alloc (.cells (netArr 0 (fun _ => 0)) 61)) (w.heap.size + 1) 0 (fun _ => 0) := by
      have := heap_alloc_new (w.alloc (.cells #[.slice a0 L.length c0] 37)) (.cells (netArr 0 (fun _ => 0)) 61)
      rwa [size_alloc1] at this
    have hb0 : Below w.heap.size w ((w.alloc (.cells #[.slice a0 L.length c0] 37)).alloc (.cells (netArr 0 (fun _ => 0)) 61)) :=
      ((Below.refl _ _).alloc (Nat.le_refl _) _).alloc (by rw [size_alloc1]; omega) _
    have HB0 := Lib.hid hb0
    clear hb0 h
    go_enter Try.func60, Try.ntmps60
    go_wp2_with fail
    refine (sizeOk_any _ _).mono ?_
    rintro e w' ⟨rfl, rfl⟩
    rw [HS.out]
    go_wp2_with (refine wpList_store_net rfl 61 (.tmp 2) (.tmp 16) rfl (w.heap.size + 1) 0 (fun _ => 0) rfl rfl Try.sizeNet 0 (fun _ => 0) hg1 ?_; intro w5 hp)
    exact netRet 0 (fun _ => 0) false _ rfl rfl hp.net rfl (HP.out _ (HB0.out.trans (hp.below.mono (by omega))))

end Go.Proofs.Ytohjfcfcopbmoaa
