/- The texts M6, M7, V1, W2, W3, joined. -/
import Derived.Test.YtjbfoiolcpigfaaDoorM4
import Derived.Test.YtjbfoiolcpigfaaDoorM5
import Derived.Test.YtjbfoiolcpigfaaDoorC3
import Derived.Test.YtjbfoiolcpigfaaDoorC5
import Derived.Deep.RegionHeld3
import Derived.Test.YtjbfoiolcpigfaaDoorC4
import Derived.Test.YtjbfoiolcpigfaaDoorW1
import Derived.Test.YtjbfoiolcpigfaaDoorF2
import Derived.Deep.AppendLies

/- Walks: the subgraph of a set, the graph under other names. -/
namespace Go.Proofs.YtjbfoiolcpigfaaDoor
open Go.RowKit

/-- The boxes of a function of one graph: its graph's and its result's. -/
structure Two (w0 : World) (v : Value) (w : World) : Prop where
  arg : BoxAt w w0.heap.size v
  res : BoxAt w (w0.heap.size + 1) (.slice none 0 0)
  bel : Below w0.heap.size w0 w
theorem Two.start (w : World) (v : Value) : Two w v ((w.alloc (.cells #[v] 29)).alloc (.cells #[.slice none 0 0] 29)) :=
  ⟨(BoxAt.new w v _).keep ((Below.refl _ _).alloc (Nat.le_refl _) _), by have := BoxAt.new (w.alloc (.cells #[v] 29)) (.slice none 0 0) 29; rwa [size_alloc1] at this, ((Below.refl _ _).alloc (Nat.le_refl _) _).alloc (by simp) _⟩
theorem Two.keep {w0 : World} {v : Value} {w w' : World} (h : Two w0 v w) (hb : Below w.heap.size w w') : Two w0 v w' :=
  ⟨h.arg.keep hb, h.res.keep hb, h.bel.trans (hb.mono h.bel.size)⟩
theorem Two.put {T : TypeId} {w0 : World} {v : Value} {w w' : World} {o : Obj} {n : Nat} {M : Nat → Nat} (h : Two w0 v w) (hp : NetPut T (w.alloc o) w' w.heap.size n M) : Two w0 v w' := h.keep hp.since
theorem Two.lt {w0 : World} {v : Value} {w : World} (h : Two w0 v w) : w0.heap.size + 1 < w.heap.size := h.res.lt
theorem Two.q0 {w0 : World} {v : Value} {w : World} (h : Two w0 v w) (u : Value) : (w.setCell ⟨w0.heap.size + 1, 0, none⟩ u).cell? ⟨w0.heap.size + 1, 0, none⟩ = some u := cell_set_same _ h.res.1
theorem Two.yes {w0 : World} {v : Value} {w : World} (h : Two w0 v w) {R : List (List Int)} {B m c : Nat} {a : Option Addr} {ok : Bool} (ho : OwnGrid 2 36 w B (.slice a m c) R) (hB : w0.heap.size + 1 < B) (hok : ok = true) :
    GaveGB w0 R ok (.returned (.tuple #[.agg #[.slice a m c], .bool true])) (w.setCell ⟨w0.heap.size + 1, 0, none⟩ (.slice a m c)) :=
  ⟨m, a, c, by rw [hok], (ho.setBelow hB _).mono (by omega), h.bel.setCell (by simp) _⟩
theorem Two.no {w0 : World} {v : Value} {w : World} (h : Two w0 v w) {R : List (List Int)} {ok : Bool} (hR : R = []) (hok : ok = false) :
    GaveGB w0 R ok (.returned (.tuple #[.agg #[.slice none 0 0], .bool false])) (w.setCell ⟨w0.heap.size + 1, 0, none⟩ (.slice none 0 0)) := by
  rw [hR, hok]
  exact GaveGB.no (h.bel.setCell (by exact Nat.le_succ _) _)

/-- Who is near whom among picked vertices. -/
def pickA (L : List (List Int)) (xs : List Int) (i j : Nat) : Bool := decide (i < xs.length) && decide (j < xs.length) && adjB L (nth xs i).toNat (nth xs j).toNat
theorem pickA_sym {L : List (List Int)} (hG : GraphP L) (xs : List Int) (i j : Nat) : pickA L xs i j = pickA L xs j i := by
  unfold pickA
  rw [adjB_sym hG]
  cases decide (i < xs.length) <;> cases decide (j < xs.length) <;> rfl
theorem pickA_self {L : List (List Int)} (hG : GraphP L) (xs : List Int) (i : Nat) : pickA L xs i i = false := by
  unfold pickA
  rw [adjB_self hG, Bool.and_false]
theorem pickA_range {L : List (List Int)} {xs : List Int} {i j : Nat} (h : pickA L xs i j = true) : i < xs.length ∧ j < xs.length := by
  unfold pickA at h
  simp at h
  exact h.1
/-- The list names vertices of the graph. -/
def InP (L : List (List Int)) (xs : List Int) : Prop := ∀ i, i < xs.length → 0 ≤ nth xs i ∧ nth xs i < (L.length : Int)
theorem pickA_spec {L : List (List Int)} {xs : List Int} (hG : GraphP L) (hx : InP L xs) : ∀ k i, k < i → i < xs.length → pickA L xs k i = hasB (nthR L (nth xs i).toNat) (nth xs k) := by
  intro k i hki hi
  have h1 := hx k (by omega)
  have h2 := hx i hi
  have hz := hG.1
  unfold pickA
  rw [decide_eq_true hi, decide_eq_true (by omega : k < xs.length), adjB_sym hG, ← adjB_has hG (by omega) (by omega), Int.toNat_of_nonneg h1.1]
  rfl
theorem pickA_impl {L : List (List Int)} {xs : List Int} (hG : GraphP L) (hx : InP L xs) : ∀ i j, i < xs.length → j < xs.length → pickA L xs i j = hasM (rowM L (nth xs i).toNat) (nth xs j) := by
  intro i j hi hj
  have h1 := hx j hj
  have hz := hG.1
  unfold pickA
  rw [decide_eq_true hi, decide_eq_true hj, ← adjB_hasM _ (by omega), Int.toNat_of_nonneg h1.1]
  rfl
theorem SetP.inP {L : List (List Int)} {xs : List Int} (h : SetP xs L.length) : InP L xs := fun i hi => ⟨(h i hi).1, by have := (h i hi).2.1; omega⟩
theorem OrdP.inP {L : List (List Int)} {xs : List Int} (h : OrdP xs L.length) : InP L xs := fun i hi => by
  have := (h.2 i hi).1
  have : 0 ≤ nth xs i ∧ nth xs i ≤ (L.length : Int) - 1 := by simpa [inB] using this
  omega

/-- The graph of picked vertices, where there is one. -/
def pickL (L : List (List Int)) (xs : List Int) (ok : Bool) : List (List Int) := if ok = true then adjL xs.length (pickA L xs) else []
theorem pickL_small {L : List (List Int)} {xs : List Int} {ok : Bool} (h : ok = true → xs.length ≤ 16) : Small (pickL L xs ok) := by
  unfold pickL
  split
  · rename_i h1
    exact adjL_small _ _ (h h1)
  · exact ⟨by simp, fun i hi => absurd hi (by simp)⟩
/-- May this subgraph be? -/
def indB (L : List (List Int)) (xs : List Int) : Bool := setB L xs && decide (0 < xs.length)
theorem indB_yes {L : List (List Int)} {xs : List Int} (h : indB L xs = true) : GraphP L ∧ SetP xs L.length ∧ 0 < xs.length ∧ xs.length ≤ 16 := by
  unfold indB setB at h
  simp at h
  have := h.1.2.len (by omega)
  have := h.1.1.1
  exact ⟨h.1.1, h.1.2, h.2, by omega⟩
theorem orderB_yes {L : List (List Int)} {xs : List Int} (h : orderB L xs = true) : GraphP L ∧ OrdP xs L.length ∧ 0 < xs.length ∧ xs.length ≤ 16 := by
  unfold orderB at h
  simp at h
  have := h.1.1
  have := h.2.1
  exact ⟨h.1, h.2, by omega, by omega⟩
theorem indL_small (L : List (List Int)) (xs : List Int) : Small (pickL L xs (indB L xs)) := pickL_small (fun h => (indB_yes h).2.2.2)
theorem renL_small (L : List (List Int)) (xs : List Int) : Small (pickL L xs (orderB L xs)) := pickL_small (fun h => (orderB_yes h).2.2.2)

set_option maxHeartbeats 1600000 in
theorem implInduced_any (v v1 : Value) (L : List (List Int)) (xs : List Int) (w : World) (h : GridAt w v L) (h1 : RowAt w v1 xs) : Calls Tryd.prog 25 #[.agg #[v], v1] w (GaveGB w (pickL L xs (indB L xs)) (indB L xs)) := by
  obtain ⟨a0, c0, rfl⟩ := h.slice
  obtain ⟨a1, c1, rfl⟩ := h1.slice
  have hlm := h1.len
  unfold maxLen at hlm
  have T0 := Lib.hid (Two.start w (.slice a0 L.length c0))
  have HGK : Hid (∀ w', Below w.heap.size w w' → GridAt w' (.slice a0 L.length c0) L) := fun w' hb => h.keep hb
  have HRK : Hid (∀ w', Below w.heap.size w w' → RowAt w' (.slice a1 xs.length c1) xs) := fun w' hb => h1.keep hb
  clear h h1
  by_cases hl : 0 < xs.length
  · have he : ((xs.length : Int) == 0) = false := by rw [beq_eq_false_iff_ne]; omega
    go_enter Tryd.func25, Tryd.ntmps25
    go_wp2_with fail
    refine (implSetOk_any _ _ _ _ _ (HGK.out _ T0.out.bel) (HRK.out _ T0.out.bel)).mono ?_
    rintro e w1 ⟨rfl, hb1⟩
    have T1 := Lib.hid (T0.out.keep hb1)
    clear hb1 T0
    by_cases hS : setB L xs = true
    · have HI : Hid (indB L xs = true) := by show indB L xs = true; unfold indB; rw [hS, decide_eq_true hl]; rfl
      have kb := T1.out.arg.1
      rw [hS]
      clear hS
      obtain ⟨hG, hs, _, h16⟩ := indB_yes HI.out
      have hz := hG.1
      have HG := Lib.hid hG
      have HS := Lib.hid hs
      clear hG hs
      go_wp2_with fail
      refine (netOf_any _ _ _ (HGK.out _ T1.out.bel)).mono ?_
      rintro e w2 ⟨rfl, hb2⟩
      have T2 := Lib.hid (T1.out.keep hb2)
      have hnb := netBlk_new w2 0 (fun _ => 0)
      rw [decide_eq_true HG.out, netArr_yes HG.out]
      clear hb2 kb
      go_wp2_with (first | (refine wpList_store_net rfl 74 (.tmp 6) (.tmp 21) rfl w2.heap.size L.length (rowM L) rfl rfl Tryd.sizeNet 0 (fun _ => 0) hnb ?_; intro w3 hp; have HN3 := Lib.hid hp.net; have T3 := Lib.hid (T2.out.put hp); clear hp))
      refine (picked_any w2.heap.size L.length (rowM L) _ xs (pickA L xs) _ HN3.out (fun i => rowM_lt (by omega) (fun v hv => (HG.out.2.1 v hv).1) i) (HRK.out _ T3.out.bel) hl h16 (fun i hi => by have := HS.out.inP i hi; omega) (pickA_impl HG.out HS.out.inP) (pickA_sym HG.out xs) (pickA_self HG.out xs) (fun i j => pickA_range)).mono ?_
      rintro e w4 ⟨n4, a4, c4, rfl, ho4, hb4⟩
      have T4 := Lib.hid (T3.out.keep hb4)
      have kr := T4.out.res.1
      have kf := T4.out.res.2
      have HO4 := Lib.hid ho4
      clear ho4 hb4
      go_wp2
      refine bodyPost_ret (v := .tuple #[.agg #[.slice a4 n4 c4], .bool true]) (by simp [results, Tryd.results25, go_sem, T4.out.q0]) rfl (T4.out.yes (B := w3.heap.size) ?_ T3.out.lt HI.out)
      rw [pickL, if_pos HI.out]
      exact HO4.out
    · have hS' : setB L xs = false := by simpa using hS
      have HI : Hid (indB L xs = false) := by show indB L xs = false; unfold indB; rw [hS', Bool.false_and]
      have kr := T1.out.res.1
      have kf := T1.out.res.2
      rw [hS']
      clear hS hS'
      go_wp2
      exact bodyPost_ret (v := .tuple #[.agg #[.slice none 0 0], .bool false]) (by simp [results, Tryd.results25, go_sem, T1.out.q0]) rfl (T1.out.no (by rw [pickL, HI.out]; rfl) HI.out)
  · have HI : Hid (indB L xs = false) := by show indB L xs = false; unfold indB; rw [decide_eq_false hl, Bool.and_false]
    obtain h0 : xs.length = 0 := by omega
    have he : ((xs.length : Int) == 0) = true := by rw [h0]; rfl
    have kr := T0.out.res.1
    have kf := T0.out.res.2
    clear h0 hl
    go_enter Tryd.func25, Tryd.ntmps25
    go_wp2
    refine bodyPost_ret (v := .tuple #[.agg #[.slice none 0 0], .bool false]) (by simp [results, Tryd.results25, go_sem]) rfl ?_
    have e0 : pickL L xs (indB L xs) = [] := by rw [pickL, HI.out]; rfl
    rw [e0, HI.out]
    exact GaveGB.no T0.out.bel

end Go.Proofs.YtjbfoiolcpigfaaDoor

/- Walks: all vertices, all but one; a vertex cut. -/
namespace Go.Proofs.YtjbfoiolcpigfaaDoor
open Go.RowKit

/-- The numbers below n. -/
def allL (n : Nat) : List Int := (List.range n).map (fun i : Nat => (i : Int))
theorem allL_len (n : Nat) : (allL n).length = n := by simp [allL]
theorem allL_succ (n : Nat) : allL (n + 1) = allL n ++ [(n : Int)] := by simp [allL, List.range_succ]
theorem allL_mem (n : Nat) (z : Int) : z ∈ allL n ↔ ∃ i : Nat, i < n ∧ (i : Int) = z := by simp [allL]
theorem allL_pair (n : Nat) : (allL n).Pairwise (· < ·) := by
  unfold allL
  rw [List.pairwise_map]
  exact List.Pairwise.imp (fun h => by omega) List.pairwise_lt_range

set_option maxHeartbeats 800000 in
theorem l1All_any (n : Nat) (w : World) (hn : n ≤ 16) : Calls Tryd.prog 81 #[.int .i64 (n : Int)] w (GaveRow w (allL n)) := by
  obtain ⟨i0, hi, hz0, hz1, hz2⟩ := info_parts Tryd.infoI
  have hown0 : (w.alloc (.cells #[] 2)).ownsRow w.heap.size 2 1 (.slice (some ⟨w.heap.size, 0, none⟩) 0 0) 0 [] := World.ownsRow_lit w #[] 0 (Nat.le_refl _) (Nat.zero_le _) rfl
  have HO0 := Lib.hid hown0
  clear hown0
  go_enter Tryd.func81, Tryd.ntmps81
  go_wp2_with fail
  go_loopw [3, 4] (fun s i wr => ∃ k : Nat, k ≤ n ∧ i = .int .i64 k ∧ wr.ownsRow w.heap.size 2 1 s (allL k).length ((allL k).map (Value.int .i64)) ∧ Below w.heap.size w wr ∧ w.heap.size ≤ wr.heap.size) (fun _ i _ => n - (intOf i).toNat)
  case atStart => exact ⟨0, Nat.zero_le _, rfl, HO0.out, (Below.refl _ _).alloc (Nat.le_refl _) _, by simp⟩
  case round =>
    obtain ⟨k, hk, rfl, ho, hb, hz⟩ := hrel
    have HO := Lib.hid ho
    have HB := Lib.hid hb
    have hll := allL_len k
    have HLL := Lib.hid hll
    clear ho hb hll
    by_cases hlt : k < n
    · go_wp2_with (at_builtin; refine wpList_append_own _ rfl (.tmp 11) (.tmp 13) 36 rfl w.heap.size 2 i0 (.int .i64 0) 1 8 Tryd.underlying36 hi hz0 hz1 hz2 rfl (by decide) _ _ _ rfl (HO.out.alloc _) ⟨wr.heap.size, 0, none⟩ 1 1 [.int .i64 (k : Int)] rfl rfl ?d1 ?d2 ?d3 ?d4 ?d5 ?_)
      case d1 =>
        intro j u hj
        match j, hj with
        | 0, hj => simp at hj; subst hj; simp [Addr.add]
      case d2 => intro u hu; simp at hu; subst hu; rfl
      case d3 => rw [HLL.out]; unfold maxLen; omega
      case d4 => rw [HLL.out]; omega
      case d5 => simp; omega
      intro v4 w4 hown4 hgrow4 _
      have hb4 : Below w.heap.size w w4 := (HB.out.alloc hz _).grown hgrow4 (by simp; omega) (fun j hj => (HO.out.lt j hj).1)
      have HO4 := Lib.hid hown4
      have HB4 := Lib.hid hb4
      clear hown4 hgrow4 hb4
      go_wp2
      go_roundw
      case rel =>
        refine ⟨k + 1, by omega, by go_num, ?_, HB4.out, HB4.out.size⟩
        rw [allL_succ]
        simpa using HO4.out
      case measure => simp [intOf]; omega
    · obtain rfl : k = n := by omega
      have hro : OwnRow 2 wr w.heap.size _ (allL k) := OwnRow.of_ownsRow (n := (allL k).length) HO.out (by rw [HLL.out]; unfold maxLen; omega) (fun x hx => by obtain ⟨i, h1, rfl⟩ := (allL_mem k x).1 hx; unfold I64; omega)
      obtain ⟨a4, c4, e4⟩ := hro.row.slice
      have HP : Hid (GaveRow w (allL k) (.returned (.slice a4 (allL k).length c4)) wr) := ⟨_, a4, c4, rfl, by rw [← e4]; exact hro, HB.out⟩
      rw [e4]
      clear hro e4
      go_wp2
      go_ret
      exact HP.out

/-- A list without x. -/
def wo (xs : List Int) (x : Int) : List Int := xs.filter (fun y => y != x)
theorem wo_len (xs : List Int) (x : Int) : (wo xs x).length ≤ xs.length := List.length_filter_le _ _
theorem wo_mem (xs : List Int) (x z : Int) : z ∈ wo xs x ↔ z ∈ xs ∧ z ≠ x := by simp [wo]
theorem wo_take {xs : List Int} {k : Nat} (x : Int) (hk : k < xs.length) : wo (xs.take (k + 1)) x = wo (xs.take k) x ++ if (nth xs k != x) = true then [nth xs k] else [] := by
  rw [List.take_succ_eq_append_getElem hk, nth_eq hk]
  unfold wo
  rw [List.filter_append]
  congr 1
  by_cases h : (xs[k] != x) = true
  · rw [if_pos h]; simp only [List.filter_cons, h, if_true, List.filter_nil]
  · rw [if_neg h]; simp only [List.filter_cons, h, List.filter_nil]; rfl

set_option maxHeartbeats 800000 in
theorem l2Without_any (v : Value) (xs : List Int) (x : Int) (w : World) (h : RowAt w v xs) (hs : xs.length ≤ 1000000) : Calls Tryd.prog 137 #[v, .int .i64 x] w (GaveRow w (wo xs x)) := by
  obtain ⟨i0, hi, hz0, hz1, hz2⟩ := info_parts Tryd.infoI
  have hown0 : (w.alloc (.cells #[] 2)).ownsRow w.heap.size 2 1 (.slice (some ⟨w.heap.size, 0, none⟩) 0 0) 0 [] := World.ownsRow_lit w #[] 0 (Nat.le_refl _) (Nat.zero_le _) rfl
  have HO0 := Lib.hid hown0
  have HR := Lib.hid h
  obtain ⟨a, c, rfl⟩ := h.slice
  clear hown0 h
  go_enter Tryd.func137, Tryd.ntmps137
  go_wp2_with fail
  go_loopw [5, 6] (fun s i wr => ∃ k : Nat, k ≤ xs.length ∧ i = .int .i64 k ∧ wr.ownsRow w.heap.size 2 1 s (wo (xs.take k) x).length ((wo (xs.take k) x).map (Value.int .i64)) ∧ Below w.heap.size w wr ∧ w.heap.size ≤ wr.heap.size) (fun _ i _ => xs.length - (intOf i).toNat)
  case atStart => exact ⟨0, Nat.zero_le _, rfl, HO0.out, (Below.refl _ _).alloc (Nat.le_refl _) _, by simp⟩
  case round =>
    obtain ⟨k, hk, rfl, ho, hb, hz⟩ := hrel
    have HO := Lib.hid ho
    have HB := Lib.hid hb
    have hll : (wo (xs.take k) x).length ≤ 1000000 := by have := wo_len (xs.take k) x; rw [List.length_take] at this; omega
    clear ho
    by_cases hlt : k < xs.length
    · obtain ⟨b, o, c', e2, l1, l2, hc⟩ := HR.out.pos (by omega)
      simp only [Value.slice.injEq, true_and] at e2
      obtain ⟨rfl, rfl⟩ := e2
      have hck := cell_keep hb (hc k hlt)
      have hck2 : (wr.alloc (.cells #[.int .i64 (nth xs k)] 2)).cell? ⟨b, o + k, none⟩ = some (.int .i64 (nth xs k)) := cell_keep ((Below.refl _ _).alloc (Nat.le_refl _) _) hck
      have HT := Lib.hid (wo_take x hlt)
      clear hc hb
      by_cases hne : (nth xs k != x) = true
      · have HNE := Lib.hid hne
        go_wp2_with (at_builtin; refine wpList_append_own _ rfl (.tmp 20) (.tmp 25) 36 rfl w.heap.size 2 i0 (.int .i64 0) 1 8 Tryd.underlying36 hi hz0 hz1 hz2 rfl (by decide) _ _ _ rfl (HO.out.alloc _) ⟨wr.heap.size, 0, none⟩ 1 1 [.int .i64 (nth xs k)] rfl rfl ?d1 ?d2 ?d3 ?d4 ?d5 ?_)
        case d1 =>
          intro j u hj
          match j, hj with
          | 0, hj => simp at hj; subst hj; simp [Addr.add]
        case d2 => intro u hu; simp at hu; subst hu; rfl
        case d3 => unfold maxLen; omega
        case d4 => omega
        case d5 => simp; omega
        intro v4 w4 hown4 hgrow4 _
        have hb4 : Below w.heap.size w w4 := (HB.out.alloc hz _).grown hgrow4 (by simp; omega) (fun j hj => (HO.out.lt j hj).1)
        have HO4 := Lib.hid hown4
        have HB4 := Lib.hid hb4
        clear hown4 hgrow4 hb4 hck hck2 hne
        go_wp2
        go_roundw
        case rel =>
          refine ⟨k + 1, by omega, by go_num, ?_, HB4.out, HB4.out.size⟩
          rw [HT.out, if_pos HNE.out]
          simpa using HO4.out
        case measure => simp [intOf]; omega
      · have hne' : (nth xs k != x) = false := by simpa using hne
        have HNE := Lib.hid hne
        clear hne hck2
        go_wp2
        go_roundw
        case rel =>
          refine ⟨k + 1, by omega, by go_num, ?_, HB.out, hz⟩
          rw [HT.out, if_neg HNE.out, List.append_nil]
          exact HO.out
        case measure => simp [intOf]; omega
    · obtain rfl : k = xs.length := by omega
      have hro : OwnRow 2 wr w.heap.size _ (wo (xs.take xs.length) x) := OwnRow.of_ownsRow (n := (wo (xs.take xs.length) x).length) HO.out (by unfold maxLen; omega) (fun z hz => HR.out.1 z (by rw [List.take_length] at hz; exact ((wo_mem _ _ _).1 hz).1))
      rw [List.take_length] at hro
      obtain ⟨a4, c4, e4⟩ := hro.row.slice
      have HP : Hid (GaveRow w (wo xs x) (.returned (.slice a4 (wo xs x).length c4)) wr) := ⟨_, a4, c4, rfl, by rw [← e4]; exact hro, HB.out⟩
      rw [e4]
      clear hro e4 hb
      go_wp2
      go_ret
      exact HP.out

/-- The vertices below n but x, rising. -/
def restL (n x : Nat) : List Int := listM (clrM (2 ^ n - 1) (2 ^ x))
theorem restL_mem {n x : Nat} (hn : n ≤ 16) (hx : x < n) (z : Int) : z ∈ restL n x ↔ ∃ i : Nat, i < n ∧ i ≠ x ∧ (i : Int) = z := by
  unfold restL
  rw [listM_mem]
  constructor
  · rintro ⟨i, h1, h2, h3⟩
    rw [clrM_bit (whole_lt hn) (pow_lt16 (by omega)), whole_bit, Nat.testBit_two_pow] at h2
    simp at h2
    exact ⟨i, h2.1, fun e => h2.2 e.symm, h3⟩
  · rintro ⟨i, h1, h2, h3⟩
    refine ⟨i, by omega, ?_, h3⟩
    rw [clrM_bit (whole_lt hn) (pow_lt16 (by omega)), whole_bit, Nat.testBit_two_pow]
    simp
    exact ⟨h1, fun e => h2 e.symm⟩
theorem wo_all {n x : Nat} (hn : n ≤ 16) (hx : x < n) : wo (allL n) (x : Int) = restL n x := by
  refine sets_eq (SetP.mk ?_ ?_) (listM_set _) (fun z => ?_)
  · exact (allL_pair n).sublist List.filter_sublist
  · intro z hz
    obtain ⟨i, h1, rfl⟩ := (allL_mem n z).1 ((wo_mem _ _ _).1 hz).1
    omega
  · rw [wo_mem, allL_mem, restL_mem hn hx]
    constructor
    · rintro ⟨⟨i, h1, rfl⟩, h2⟩; exact ⟨i, h1, fun e => h2 (by rw [e]), rfl⟩
    · rintro ⟨i, h1, h2, rfl⟩; exact ⟨⟨i, h1, rfl⟩, fun e => h2 (by omega)⟩
theorem restL_len (n x : Nat) : (restL n x).length ≤ 16 := listM_len _
theorem restL_pos {n x : Nat} (hn : n ≤ 16) (hx : x < n) (h2 : 2 ≤ n) : 0 < (restL n x).length := by
  have : ((if x = 0 then 1 else 0 : Nat) : Int) ∈ restL n x := by
    rw [restL_mem hn hx]
    refine ⟨if x = 0 then 1 else 0, ?_, ?_, rfl⟩
    · split <;> omega
    · split <;> omega
  exact List.length_pos_of_mem this
theorem restL_in {n x : Nat} (hn : n ≤ 16) (hx : x < n) (i : Nat) (hi : i < (restL n x).length) : 0 ≤ nth (restL n x) i ∧ nth (restL n x) i < (n : Int) := by
  obtain ⟨j, h1, _, h3⟩ := (restL_mem hn hx _).1 (nth_mem hi)
  rw [← h3]; omega

end Go.Proofs.YtjbfoiolcpigfaaDoor

/- Walks: LoopOk, of the model. -/
namespace Go.Proofs.YtjbfoiolcpigfaaDoor
open Go.RowKit

/-- Element k is a vertex, not among the first k, and a neighbour of the one before it. -/
def PathAt (L : List (List Int)) (xs : List Int) (k : Nat) : Prop :=
  inB (nth xs k) 0 ((L.length : Int) - 1) = true ∧ hasB (xs.take k) (nth xs k) = false ∧ (0 < k → hasB (nthR L (nth xs (k - 1)).toNat) (nth xs k) = true)
instance (L : List (List Int)) (xs : List Int) (k : Nat) : Decidable (PathAt L xs k) := by unfold PathAt; infer_instance
def PathP (L : List (List Int)) (xs : List Int) : Prop := ∀ k, k < xs.length → PathAt L xs k
instance (L : List (List Int)) (xs : List Int) : Decidable (PathP L xs) := by unfold PathP; infer_instance

set_option maxHeartbeats 2000000 in
theorem l3Path_any (v v1 : Value) (L : List (List Int)) (xs : List Int) (w : World) (h : GridAt w v L) (h1 : RowAt w v1 xs) (hx0 : 0 < xs.length) :
    Calls Tryd.prog 108 #[.agg #[v], v1] w fun e w' => e = .returned (.bool (decide (PathP L xs))) ∧ Below w.heap.size w w' := by
  have hl := h.len
  have hl1 := h1.len
  unfold maxLen at hl hl1
  obtain ⟨a0, c0, rfl⟩ := h.slice
  have ha : Below w.heap.size w (w.alloc (.cells #[.slice a0 L.length c0] 29)) := (Below.refl _ _).alloc (Nat.le_refl _) _
  have hk := h.keep ha
  have hr := h1.keep ha
  have HA := Lib.hid ha
  clear ha
  obtain ⟨b, o, c, rfl, l1, l2, hc⟩ := hr.pos (by omega)
  have kb1 : (w.alloc (.cells #[.slice a0 L.length c0] 29)).cell? ⟨w.heap.size, 0, none⟩ = some (.slice a0 L.length c0) := by go_simp
  obtain ⟨w1, hw1⟩ : ∃ w1, w.alloc (.cells #[.slice a0 L.length c0] 29) = w1 := ⟨_, rfl⟩
  go_enter Tryd.func108, Tryd.ntmps108
  go_wp2_with fail
  rw [hw1] at HA hk hr hc kb1
  have HC1 := Lib.hid hc
  have HB1 : Hid (Below w.heap.size w w1) := HA.out
  have R1 := Lib.hid hk
  have S1 := Lib.hid hr
  have hkb1 := Lib.hid kb1
  clear hc hk hr kb1 h1 h hw1 HA
  go_loopw [5] (fun i wr => ∃ k : Nat, k ≤ xs.length ∧ i = .int .i64 k ∧ (∀ j, j < k → PathAt L xs j) ∧ Below w1.heap.size w1 wr) (fun i _ => xs.length - (intOf i).toNat)
  case atStart => exact ⟨0, Nat.zero_le _, rfl, (fun j hj => absurd hj (by omega)), Below.refl _ _⟩
  case round =>
    obtain ⟨k, hk, rfl, he, hb⟩ := hrel
    have HE := Lib.hid he
    clear he
    by_cases hlt : k < xs.length
    · have hck := cell_keep hb (HC1.out k hlt)
      have kb := cell_keep hb hkb1.out
      have R := Lib.hid (R1.out.keep hb)
      have hcap : (k : Int) ≤ (c : Int) := by omega
      have T := Lib.hid ((S1.out.keep hb).take (fun i hi => cell_keep hb (HC1.out i hi)) l2 l1 k hk)
      have HBw : Hid (Below w.heap.size w wr) := HB1.out.trans (hb.mono HB1.out.size)
      have HBr := Lib.hid hb
      have kl := fun x : Later wr => x.cell kb
      have hl2 := fun x : Later wr => x.cell hck
      have hcall1 : Hid (∀ x : Later wr, Calls Tryd.prog 85 #[.agg #[.slice a0 L.length c0], .int .i64 (nth xs k)] x.at fun e w2 => e = .returned (.bool (inB (nth xs k) 0 ((L.length : Int) - 1))) ∧ ∃ y : Later wr, w2 = y.at) :=
        fun x => Calls.later (l1There_any _ _ _ _ (R.out.keep x.bel))
      have hcall2 : Hid (∀ x : Later wr, Calls Tryd.prog 100 #[.slice (some ⟨b, o, none⟩) k c, .int .i64 (nth xs k)] x.at fun e w2 => e = .returned (.bool (hasB (xs.take k) (nth xs k))) ∧ ∃ y : Later wr, w2 = y.at) :=
        fun x => Calls.later_same (l1Has_any _ _ _ _ (T.out.keep x.bel))
      have hprev : 0 < k → 0 ≤ nth xs (k - 1) ∧ nth xs (k - 1) < (L.length : Int) := fun h0 => by
        have := (HE.out (k - 1) (by omega)).1
        simp [inB] at this; omega
      by_cases hin : inB (nth xs k) 0 ((L.length : Int) - 1) = true
      · have HI := Lib.hid hin
        have hc1 : Hid (∀ x : Later wr, Calls Tryd.prog 85 #[.agg #[.slice a0 L.length c0], .int .i64 (nth xs k)] x.at fun e w2 => e = .returned (.bool true) ∧ ∃ y : Later wr, w2 = y.at) := by have := hcall1.out; rwa [hin] at this
        clear hcall1 hin
        by_cases hH : hasB (xs.take k) (nth xs k) = true
        · have HH := Lib.hid hH
          have hc2 : Hid (∀ x : Later wr, Calls Tryd.prog 100 #[.slice (some ⟨b, o, none⟩) k c, .int .i64 (nth xs k)] x.at fun e w2 => e = .returned (.bool true) ∧ ∃ y : Later wr, w2 = y.at) := by have := hcall2.out; rwa [hH] at this
          clear hcall2 hH hb hprev
          go_wp2
          refine wp_region_later (by kernel_rfl) (by kernel_rfl) ?_
          repeat (go_big_quiet_step (first | (go_at_call 85; exact hc1.out _) | (go_at_call 100; exact hc2.out _)))
          refine wpQuiet_nil ?_
          rintro _ ⟨x, rfl⟩
          have HB2 : Hid (Below w.heap.size w x.at) := HBw.out.trans (x.bel.mono HBw.out.size)
          clear kl hl2
          all_goals go_wp2
          all_goals go_ret
          all_goals exact ⟨ret_bool (by symm; rw [decide_eq_false_iff_not]; intro hp; have := (hp k hlt).2.1; rw [HH.out] at this; exact absurd this (by simp)), HB2.out⟩
        · have hH' : hasB (xs.take k) (nth xs k) = false := by simpa using hH
          have HH := Lib.hid hH'
          have hc2 : Hid (∀ x : Later wr, Calls Tryd.prog 100 #[.slice (some ⟨b, o, none⟩) k c, .int .i64 (nth xs k)] x.at fun e w2 => e = .returned (.bool false) ∧ ∃ y : Later wr, w2 = y.at) := by have := hcall2.out; rwa [hH'] at this
          clear hcall2 hH hH'
          by_cases hk0 : k = 0
          · have hb1 : decide ((0 : Int) < (k : Int)) = false := by simp; omega
            have hb2 : decide (0 < k) = false := by simp; omega
            have HK := Lib.hid hk0
            clear hk0 hb hprev
            go_wp2
            refine wp_region_later (by kernel_rfl) (by kernel_rfl) ?_
            repeat (go_big_quiet_step (first | (go_at_call 85; exact hc1.out _) | (go_at_call 100; exact hc2.out _)))
            refine wpQuiet_nil ?_
            rintro _ ⟨x, rfl⟩
            have HB2 : Hid (Below w1.heap.size w1 x.at) := HBr.out.trans (x.bel.mono HBr.out.size)
            clear kl hl2
            go_wp2
            go_roundw
            case rel => exact ⟨k + 1, by omega, by go_num, (fun j hj => by rcases Nat.lt_succ_iff_lt_or_eq.1 hj with h | h; exact HE.out j h; subst h; exact ⟨HI.out, HH.out, fun h5 => absurd h5 (by have := HK.out; omega)⟩), HB2.out⟩
            case measure => simp [intOf]; omega
          · have hb1 : decide ((0 : Int) < (k : Int)) = true := by simp; omega
            have hb2 : decide (0 < k) = true := by simp; omega
            have hp : 0 < k := by omega
            have hw2 : IntKind.i64.wrap ((k : Int) - 1) = (k : Int) - 1 := IntWalk.i64_in _ (by omega)
            have hw3 : 0 ≤ (k : Int) - 1 := by omega
            have hw3' : 1 ≤ (k : Int) := by omega
            have hw4 : ((k : Int) - 1).toNat = k - 1 := by omega
            have hw5 : (k : Int) - 1 < (xs.length : Int) := by omega
            have hcp := cell_keep hb (HC1.out (k - 1) (by omega))
            have hl3 := fun x : Later wr => x.cell hcp
            have hcall3 : Hid (∀ x : Later wr, Calls Tryd.prog 86 #[.agg #[.slice a0 L.length c0], .int .i64 (nth xs (k - 1)), .int .i64 (nth xs k)] x.at fun e w2 => e = .returned (.bool (hasB (nthR L (nth xs (k - 1)).toNat) (nth xs k))) ∧ ∃ y : Later wr, w2 = y.at) :=
              fun x => Calls.later (l1Edge_any _ _ _ _ _ (R.out.keep x.bel) (hprev hp).1 (hprev hp).2)
            clear hb hprev
            by_cases hE : hasB (nthR L (nth xs (k - 1)).toNat) (nth xs k) = true
            · have hc3 : Hid (∀ x : Later wr, Calls Tryd.prog 86 #[.agg #[.slice a0 L.length c0], .int .i64 (nth xs (k - 1)), .int .i64 (nth xs k)] x.at fun e w2 => e = .returned (.bool true) ∧ ∃ y : Later wr, w2 = y.at) := by have := hcall3.out; rwa [hE] at this
              have HX := Lib.hid hE
              clear hcall3 hE hk0
              go_wp2
              refine wp_region_later (by kernel_rfl) (by kernel_rfl) ?_
              repeat (go_big_quiet_step (first | (go_at_call 85; exact hc1.out _) | (go_at_call 100; exact hc2.out _) | (go_at_call 86; exact hc3.out _)))
              refine wpQuiet_nil ?_
              rintro _ ⟨x, rfl⟩
              have HB2 : Hid (Below w1.heap.size w1 x.at) := HBr.out.trans (x.bel.mono HBr.out.size)
              clear kl hl2 hl3
              go_wp2
              go_roundw
              case rel => exact ⟨k + 1, by omega, by go_num, (fun j hj => by rcases Nat.lt_succ_iff_lt_or_eq.1 hj with h | h; exact HE.out j h; subst h; exact ⟨HI.out, HH.out, fun _ => HX.out⟩), HB2.out⟩
              case measure => simp [intOf]; omega
            · have hE' : hasB (nthR L (nth xs (k - 1)).toNat) (nth xs k) = false := by simpa using hE
              have hc3 : Hid (∀ x : Later wr, Calls Tryd.prog 86 #[.agg #[.slice a0 L.length c0], .int .i64 (nth xs (k - 1)), .int .i64 (nth xs k)] x.at fun e w2 => e = .returned (.bool false) ∧ ∃ y : Later wr, w2 = y.at) := by have := hcall3.out; rwa [hE'] at this
              have HX := Lib.hid hE'
              clear hcall3 hE hE' hk0
              go_wp2
              refine wp_region_later (by kernel_rfl) (by kernel_rfl) ?_
              repeat (go_big_quiet_step (first | (go_at_call 85; exact hc1.out _) | (go_at_call 100; exact hc2.out _) | (go_at_call 86; exact hc3.out _)))
              refine wpQuiet_nil ?_
              rintro _ ⟨x, rfl⟩
              have HB2 : Hid (Below w.heap.size w x.at) := HBw.out.trans (x.bel.mono HBw.out.size)
              clear kl hl2 hl3
              all_goals go_wp2
              all_goals go_ret
              all_goals exact ⟨ret_bool (by symm; rw [decide_eq_false_iff_not]; intro hpp; have := (hpp k hlt).2.2 hp; rw [HX.out] at this; exact absurd this (by simp)), HB2.out⟩
      · have hin' : inB (nth xs k) 0 ((L.length : Int) - 1) = false := by simpa using hin
        have HI := Lib.hid hin'
        have hc1 : Hid (∀ x : Later wr, Calls Tryd.prog 85 #[.agg #[.slice a0 L.length c0], .int .i64 (nth xs k)] x.at fun e w2 => e = .returned (.bool false) ∧ ∃ y : Later wr, w2 = y.at) := by have := hcall1.out; rwa [hin'] at this
        clear hin hin' T hcall1 hcall2 hb hprev
        go_wp2
        refine wp_region_later (by kernel_rfl) (by kernel_rfl) ?_
        repeat (go_big_quiet_step ((go_at_call 85; exact hc1.out _)))
        refine wpQuiet_nil ?_
        rintro _ ⟨x, rfl⟩
        have HB2 : Hid (Below w.heap.size w x.at) := HBw.out.trans (x.bel.mono HBw.out.size)
        clear kl hl2
        all_goals go_wp2
        all_goals go_ret
        all_goals exact ⟨ret_bool (by symm; rw [decide_eq_false_iff_not]; intro hp; have := (hp k hlt).1; rw [HI.out] at this; exact absurd this (by simp)), HB2.out⟩
    · obtain rfl : k = xs.length := by omega
      go_wp2
      go_ret
      exact ⟨ret_bool (by symm; rw [decide_eq_true_iff]; exact HE.out), HB1.out.trans (hb.mono HB1.out.size)⟩

end Go.Proofs.YtjbfoiolcpigfaaDoor

/- Walks: the model's distances. -/
namespace Go.Proofs.YtjbfoiolcpigfaaDoor
open Go.RowKit

theorem OwnRow.far' {T : TypeId} {w w' : World} {B : Nat} {v : Value} {xs : List Int} {r : Option Nat} (h : OwnRow T w B v xs) (hg : w.grownBy w' r) (hne : ∀ k, v.ownBlock = some k → some k ≠ r) : OwnRow T w' B v xs := by
  obtain ⟨h1, h2, h3⟩ := h
  refine ⟨h1, h2, ?_⟩
  rcases h3 with h3 | ⟨g, cap, cur, e, hgB, hh, rest⟩
  · exact Or.inl h3
  · refine Or.inr ⟨g, cap, cur, e, hgB, ?_, rest⟩
    rw [hg.block g (Array.getElem?_eq_some_iff.1 hh).1 (hne g (by rw [e]; rfl))]
    exact hh

theorem OwnRow.laidAt' {T : TypeId} {w : World} {B g cap n : Nat} {ys : List Int} (h : OwnRow T w B (.slice (some ⟨g, 0, none⟩) n cap) ys) (hn : ys.length = n) {k : Nat} (hk : k < n) {z : Int} (hz : I64 z) :
    OwnRow T (w.setCell ⟨g, k, none⟩ (.int .i64 z)) B (.slice (some ⟨g, 0, none⟩) n cap) (ys.set k z) ∧ w.cell? ⟨g, k, none⟩ = some (.int .i64 (nth ys k)) ∧ w.frozen? ⟨g, k, none⟩ = false ∧ B ≤ g := by
  subst hn
  obtain ⟨h1, h2, h3⟩ := h
  rcases h3 with ⟨e, _⟩ | ⟨g', cap', cur, e, hgB, hh, l1, l2, hs, hc⟩
  · simp at e
  · simp only [Value.slice.injEq, Option.some.injEq, Addr.mk.injEq, and_true, true_and] at e
    obtain ⟨rfl, rfl⟩ := e
    have hlen : (ys.set k z).length = ys.length := List.length_set
    refine ⟨⟨fun x hx => ?_, by rw [hlen]; exact h2, Or.inr ⟨g, cap, cur.set! k (.int .i64 z), by rw [hlen], hgB, heap_setCell_same w g k _ _ _ hh, by rw [hlen]; exact l1, l2, by simp [hs], fun i hi => ?_⟩⟩, by rw [cell_of_row w g k cur T _ hh]; exact hc k hk, ?_, hgB⟩
    · rcases List.mem_or_eq_of_mem_set hx with h | rfl
      · exact h1 x h
      · exact hz
    · have hi' : i < ys.length := by rw [hlen] at hi; exact hi
      rw [nth_eq hi, List.getElem_set]
      by_cases e : k = i
      · subst e; have hks : k < cur.size := by omega
        simp [hks]
      · rw [if_neg e, ← nth_eq hi', ← hc i hi']; simp [e]
    · exact frozen_of_row w g k cur T hh
theorem OwnRow.cells' {T : TypeId} {w : World} {B b n cl : Nat} {xs : List Int} (h : OwnRow T w B (.slice (some ⟨b, 0, none⟩) n cl) xs) : ∀ i, i < xs.length → w.cell? ⟨b, i, none⟩ = some (.int .i64 (nth xs i)) := by
  obtain ⟨h1, h2, h3⟩ := h
  rcases h3 with ⟨e, _⟩ | ⟨g', cap', cur, e, hgB, hh, l1, l2, hs, hc⟩
  · simp at e
  · simp only [Value.slice.injEq, Option.some.injEq, Addr.mk.injEq, and_true] at e
    obtain ⟨rfl, _, _⟩ := e
    intro i hi
    rw [cell_of_row w b i cur T _ hh]
    exact hc i hi
/-- A row of one's own that is not empty lies in a block. -/
theorem OwnRow.posB {T : TypeId} {w : World} {B : Nat} {v : Value} {xs : List Int} (h : OwnRow T w B v xs) (h0 : 0 < xs.length) : ∃ g cap, v = .slice (some ⟨g, 0, none⟩) xs.length cap ∧ B ≤ g ∧ g < w.heap.size ∧ xs.length ≤ cap ∧ cap ≤ maxLen := by
  rcases h.2.2 with ⟨_, e⟩ | ⟨g, cap, cur, e, hgB, hh, l1, l2, hs, hc⟩
  · rw [e] at h0; simp at h0
  · exact ⟨g, cap, e, hgB, (Array.getElem?_eq_some_iff.1 hh).1, l1, l2⟩

/-- Who is near whom. -/
def nearB (L : List (List Int)) (a b : Nat) : Bool := hasB (nthR L a) (b : Int)
/-- Who is in a list. -/
def inS (xs : List Int) (u : Nat) : Bool := hasB xs (u : Int)

/-- The two rows of a search: the distances so far, and who was met. -/
structure Seek (W : World) (g cap n : Nat) (out met : List Int) (vm : Value) (wr : World) : Prop where
  out : OwnRow 2 wr W.heap.size (.slice (some ⟨g, 0, none⟩) n cap) out
  met : OwnRow 2 wr W.heap.size vm met
  ne : ∀ k, vm.ownBlock = some k → k ≠ g
  bel : Below W.heap.size W wr
theorem Seek.later {W : World} {g cap n : Nat} {out met : List Int} {vm : Value} {wr w' : World} (h : Seek W g cap n out met vm wr) (hb : Below wr.heap.size wr w') : Seek W g cap n out met vm w' :=
  ⟨h.out.keep hb, h.met.keep hb, h.ne, h.bel.trans (hb.mono h.bel.size)⟩
theorem Seek.put {W : World} {g cap n : Nat} {out met : List Int} {vm : Value} {wr : World} (h : Seek W g cap n out met vm wr) (hn : out.length = n) {k : Nat} (hk : k < n) {z : Int} (hz : I64 z) : Seek W g cap n (out.set k z) met vm (wr.setCell ⟨g, k, none⟩ (.int .i64 z)) :=
  ⟨(h.out.laidAt' hn hk hz).1, h.met.setCell (fun e => h.ne _ e rfl) _, h.ne, h.bel.setCell (p := ⟨g, k, none⟩) (h.out.laidAt' hn hk hz).2.2.2 _⟩
theorem Seek.more {W : World} {g cap n : Nat} {out met : List Int} {vm : Value} {wr : World} (h : Seek W g cap n out met vm wr) {o : Obj} {v' : Value} {w' : World} {x : Int} (hx : I64 x) (hm : met.length + 1 ≤ maxLen)
    (hown : w'.ownsRow W.heap.size 2 1 v' (met.length + 1) (met.map (Value.int .i64) ++ [.int .i64 x])) (hgrow : (wr.alloc o).grownBy w' vm.ownBlock) (hv' : ∀ k, v'.ownBlock = some k → vm.ownBlock = some k ∨ wr.heap.size ≤ k) :
    Seek W g cap n out (met ++ [x]) v' w' := by
  have hbA : Below wr.heap.size wr (wr.alloc o) := (Below.refl _ _).alloc (Nat.le_refl _) _
  have hlt := (h.out.lt g rfl).2
  refine ⟨(h.out.keep hbA).far' hgrow ?_, OwnRow.of_ownsRow (n := met.length + 1) (by simpa using hown) (by simpa using hm) (fun y hy => ?_), fun k hk => ?_, ?_⟩
  · intro k hk e
    simp [Value.ownBlock] at hk
    subst hk
    exact h.ne _ e.symm rfl
  · rcases List.mem_append.1 hy with hy | hy
    · exact h.met.1 y hy
    · simp at hy; subst hy; exact hx
  · rcases hv' k hk with h1 | h1
    · exact h.ne k h1
    · intro e; omega
  · exact ((h.bel.trans (hbA.mono h.bel.size))).grown hgrow (by simp; have := h.bel.size; omega) (fun j hj => (h.met.lt j hj).1)

end Go.Proofs.YtjbfoiolcpigfaaDoor

/- Walks: the model's distances, the walk. -/
namespace Go.Proofs.YtjbfoiolcpigfaaDoor
open Go.RowKit

theorem wkS {xs : List Int} {n : Nat} (h : ∀ x ∈ xs, 0 ≤ x ∧ x < (n : Int)) : ∀ u, inS xs u = true → u < n := by
  intro u hu
  obtain ⟨i, hi, e⟩ := (hasB_iff _ _).1 hu
  have := h _ (nth_mem hi)
  omega

set_option maxHeartbeats 4000000 in
set_option maxRecDepth 100000 in
theorem l3From_any (v v1 : Value) (L : List (List Int)) (u : Nat) (xs : List Int) (w : World) (h : GridAt w v L) (hG : GraphP L) (hu : u < L.length) (h1 : RowAt w v1 xs) (hx : ∀ x ∈ xs, 0 ≤ x ∧ x < (L.length : Int)) :
    Calls Tryd.prog 91 #[.agg #[v], .int .i64 (u : Int), v1] w (GaveRow w (distL L.length (nearB L) (inS xs) u)) := by
  have hz := hG.1
  have hS := Lib.hid (wkS hx)
  have HG := Lib.hid hG
  obtain ⟨b, o, c, A, C, rfl, l1, l2, hc⟩ := h.pos (by omega)
  obtain ⟨W1, hW1⟩ : ∃ W1, W1 = w.alloc (.cells #[.slice (some ⟨b, o, none⟩) L.length c] 29) := ⟨_, rfl⟩
  have hs1 : W1.heap.size = w.heap.size + 1 := by rw [hW1]; simp
  have ha : Below w.heap.size w W1 := by rw [hW1]; exact (Below.refl _ _).alloc (Nat.le_refl _) _
  have kb : W1.cell? ⟨w.heap.size, 0, none⟩ = some (.slice (some ⟨b, o, none⟩) L.length c) := by rw [hW1]; go_simp
  have HC : Hid (∀ i, i < L.length → W1.cell? ⟨b, o + i, none⟩ = some (.slice (A i) (nthR L i).length (C i)) ∧ RowAt W1 (.slice (A i) (nthR L i).length (C i)) (nthR L i)) := fun i hi => ⟨cell_keep ha (hc i hi).1, (hc i hi).2.keep ha⟩
  have HGr := Lib.hid (h.keep ha)
  have HX := Lib.hid (h1.keep ha)
  have KB := Lib.hid kb
  have HA := Lib.hid ha
  have HS1 := Lib.hid hs1
  have HW1 := Lib.hid hW1
  clear hc ha hs1 kb hW1 h h1 hG hx
  obtain ⟨i0, hi, hz0, hz1, hz2⟩ := info_parts Tryd.infoI
  go_enter Tryd.func91, Tryd.ntmps91
  go_wp2_with fail
  rw [← HW1.out]
  have hown0 : (W1.alloc (.cells #[] 2)).ownsRow W1.heap.size 2 1 (.slice (some ⟨W1.heap.size, 0, none⟩) 0 0) 0 [] := World.ownsRow_lit W1 #[] 0 (Nat.le_refl _) (Nat.zero_le _) rfl
  rw [HS1.out] at hown0
  have HO0 := Lib.hid hown0
  clear hown0
  go_loopw [7, 8] (fun s i wr => ∃ k : Nat, k ≤ L.length ∧ i = .int .i64 k ∧ OwnRow 2 wr W1.heap.size s (List.replicate k (-1 : Int)) ∧ Below W1.heap.size W1 wr) (fun _ i _ => L.length - (intOf i).toNat)
  case atStart => exact ⟨0, Nat.zero_le _, rfl, OwnRow.of_ownsRow (n := 0) (by rw [HS1.out]; exact HO0.out) (Nat.zero_le _) (fun x hx => absurd hx (by simp)), (Below.refl _ _).alloc (Nat.le_refl _) _⟩
  case round =>
    obtain ⟨k, hk, rfl, ho, hb⟩ := hrel
    have hkb := cell_keep hb KB.out
    have hg2 := Lib.hid (HGr.out.keep hb)
    have HO := Lib.hid ho
    have HB := Lib.hid hb
    clear ho hb
    go_wp2_with fail
    refine (l1Size_any _ _ _ hg2.out).mono ?_
    rintro e w2 ⟨rfl, hb2⟩
    have HB2 : Hid (Below W1.heap.size W1 w2) := HB.out.trans (hb2.mono HB.out.size)
    have hz2' : W1.heap.size ≤ w2.heap.size := HB2.out.size
    have HO2 := Lib.hid (HO.out.keep hb2)
    clear hb2 hkb hg2 HO HB
    by_cases hlt : k < L.length
    · go_wp2_with (at_builtin; refine wpList_append_own _ rfl (.tmp 20) (.tmp 21) 36 rfl W1.heap.size 2 i0 (.int .i64 0) 1 8 Tryd.underlying36 hi hz0 hz1 hz2 rfl (by decide) _ _ _ rfl (HO2.out.owns.alloc _) ⟨w2.heap.size, 0, none⟩ 1 1 [.int .i64 (-1)] rfl rfl ?d1 ?d2 ?d3 ?d4 ?d5 ?_)
      case d1 =>
        intro j u hj
        match j, hj with
        | 0, hj => simp at hj; subst hj; simp [Addr.add]
      case d2 => intro u hu; simp at hu; subst hu; rfl
      case d3 => simp; unfold maxLen; omega
      case d4 => simp; omega
      case d5 => simp; omega
      intro v4 w4 hown4 hgrow4 _
      have hb4 : Below W1.heap.size W1 w4 := (HB2.out.alloc hz2' _).grown hgrow4 (by simp; omega) (fun j hj => (HO2.out.lt j hj).1)
      have HO4 : Hid (OwnRow 2 w4 W1.heap.size v4 (List.replicate (k + 1) (-1 : Int))) := OwnRow.of_ownsRow (n := (List.replicate k (-1 : Int)).length + 1) (by rw [List.replicate_succ']; simpa using hown4) (by simp; unfold maxLen; omega) (fun x hx => by rw [List.mem_replicate] at hx; rw [hx.2]; unfold I64; omega)
      have HB4 := Lib.hid hb4
      clear hown4 hgrow4 hb4
      go_wp2
      go_roundw
      case rel => exact ⟨k + 1, by omega, by go_num, HO4.out, HB4.out⟩
      case measure => simp [intOf]; omega
    · obtain rfl : k = L.length := by omega
      obtain ⟨g, cap, rfl, hgB, hgl, hc1, hc2⟩ := HO2.out.posB (by simp; omega)
      rw [List.length_replicate] at HO2 hc1 ⊢
      have hX2 := Lib.hid (HX.out.keep HB2.out)
      go_wp2_with fail
      refine (l1Has_any _ _ _ _ hX2.out).mono ?_
      rintro e w' ⟨rfl, rfl⟩
      by_cases hin : inS xs u = true
      · rw [show hasB xs (u : Int) = true from hin]
        have hI0 : I64 0 := by unfold I64; omega
        obtain ⟨hput, hcu, hfu, _⟩ := HO2.out.laidAt' (by simp) hu hI0
        have HP := Lib.hid hput
        have HIN := Lib.hid hin
        clear hput hin
        have HSK : Hid (Seek W1 g cap L.length ((List.replicate L.length (-1 : Int)).set u 0) [(u : Int)] (.slice (some ⟨w2.heap.size, 0, none⟩) 1 1) ((w2.setCell ⟨g, u, none⟩ (.int .i64 0)).alloc (.cells #[.int .i64 (u : Int)] 2))) := by
          have hzz : (w2.setCell ⟨g, u, none⟩ (.int .i64 0)).heap.size = w2.heap.size := by simp
          have hbA : Below (w2.setCell ⟨g, u, none⟩ (.int .i64 0)).heap.size (w2.setCell ⟨g, u, none⟩ (.int .i64 0)) ((w2.setCell ⟨g, u, none⟩ (.int .i64 0)).alloc (.cells #[.int .i64 (u : Int)] 2)) := (Below.refl _ _).alloc (Nat.le_refl _) _
          refine ⟨HP.out.keep hbA, ?_, ?_, (HB2.out.setCell (p := ⟨g, u, none⟩) hgB _).trans (hbA.mono (by rw [hzz]; exact hz2'))⟩
          · have h0 := World.ownsRow_lit (w2.setCell ⟨g, u, none⟩ (.int .i64 0)) #[.int .i64 (u : Int)] (e := 2) (size := 1) 1 (base := W1.heap.size) (by rw [hzz]; exact hz2') (by unfold maxLen; omega) rfl
            rw [hzz] at h0
            exact OwnRow.of_ownsRow (xs := [(u : Int)]) (n := 1) h0 (by simp; unfold maxLen; omega) (fun x hx => by simp at hx; subst hx; unfold I64; omega)
          · intro k hk; simp [Value.ownBlock] at hk; omega
        have HBF : Hid (Bfs (nearB L) (inS xs) u L.length ((List.replicate L.length (-1 : Int)).set u 0) [(u : Int)] 0) := Bfs.start hu HIN.out
        clear HP HIN
        go_wp2
        clear hcu hfu
        go_loopw [9, 10] (fun m i wr => ∃ (out met : List Int) (j : Nat), i = .int .i64 j ∧ Seek W1 g cap L.length out met m wr ∧ Bfs (nearB L) (inS xs) u L.length out met j) (fun _ i _ => 16 - (intOf i).toNat)
        case atStart => exact ⟨_, _, 0, rfl, HSK.out, HBF.out⟩
        case round =>
          rename World => w3
          obtain ⟨out, met, j, rfl, hsk, hbf⟩ := hrel
          have hml := hbf.met_le
          obtain ⟨am, cm, em⟩ := hsk.met.row.slice
          subst em
          have HSK := Lib.hid hsk
          have HBF := Lib.hid hbf
          by_cases hjl : j < met.length
          · have hmr := hbf.at_lt hjl
            obtain ⟨m, hm⟩ : ∃ m : Nat, nth met j = (m : Int) := ⟨(nth met j).toNat, by omega⟩
            have hmn : m < L.length := by omega
            obtain ⟨gm, cm', e1, hgmB, hgml, hcm1, hcm2⟩ := hsk.met.posB (by omega)
            simp only [Value.slice.injEq, true_and] at e1
            obtain ⟨rfl, rfl⟩ := e1
            have hcj := hsk.met.cells' j hjl
            rw [hm] at hcj
            have hkb := cell_keep hsk.bel KB.out
            have hck := cell_keep hsk.bel (HC.out m hmn).1
            have hrow := (HC.out m hmn).2
            have HSET := Lib.hid (HG.out.2.1 m hmn).1
            have hrl : (nthR L m).length ≤ 16 := by have := HSET.out.len (by omega); omega
            have HM := Lib.hid hm
            have hj16 : j < 16 := by omega
            have HDR : Hid (Seek W1 g cap L.length out met (.slice (some ⟨gm, 0, none⟩) met.length cm) w3.drew) := HSK.out.later (Below.refl _ _).drew
            clear hm hsk hbf hmr
            by_cases hr0 : (nthR L m).length = 0
            · rw [hr0] at hck
              have HNX : Hid (Bfs (nearB L) (inS xs) u L.length out met (j + 1)) := HBF.out.next hjl (fun x hx ha hs => by
                rw [HM.out, Int.toNat_natCast] at ha
                obtain ⟨p, hp, e⟩ := (hasB_iff _ _).1 ha
                omega)
              clear hr0 hrow hrl
              go_wp2
              go_quiet (fail)
              go_wp2_with fail
              refine wp_loop_rounds 1 ?_
              rw [rounds_succ]
              go_wp2
              go_roundw
              case rel => exact ⟨out, met, j + 1, by go_num, HSK.out.later (below_drewN (Below.refl _ _) _), HNX.out⟩
              case measure => simp [intOf]; omega
            obtain ⟨b1, o1, c1, e1, m1, m2, hcr⟩ := hrow.pos (by omega)
            simp only [Value.slice.injEq, true_and] at e1
            obtain ⟨eA, eC⟩ := e1
            rw [eA, eC] at hck
            have HCRR := Lib.hid hcr
            clear eA eC hr0 hrow hcr
            go_wp2
            go_quiet (fail)
            clear hcj hck hkb
            go_wp2_with fail
            go_loopw [9, 12] (fun mv kv wr => ∃ (out met : List Int) (q : Nat), q ≤ (nthR L m).length ∧ kv = .int .i64 q ∧ Seek W1 g cap L.length out met mv wr ∧ Bfs (nearB L) (inS xs) u L.length out met j ∧ j < met.length ∧ nth met j = (m : Int) ∧ ∀ p, p < q → inS xs (nth (nthR L m) p).toNat = true → 0 ≤ nth out (nth (nthR L m) p).toNat) (fun _ kv _ => (nthR L m).length - (intOf kv).toNat)
            case atStart => exact ⟨out, met, 0, Nat.zero_le _, rfl, HSK.out.later (below_drewN (Below.refl _ _) _), HBF.out, hjl, HM.out, fun p hp => absurd hp (by omega)⟩
            case round =>
              clear HSK HBF HM HDR hjl hml hgmB hgml hcm1 hcm2
              rename World => w4
              obtain ⟨out, met, q, hq, rfl, hsk, hbf, hjl, hm, hdone⟩ := hrel
              by_cases hql : q < (nthR L m).length
              · have hst := HSET.out q hql
                obtain ⟨x, hx⟩ : ∃ x : Nat, nth (nthR L m) q = (x : Int) := ⟨(nth (nthR L m) q).toNat, by have := hst.1; omega⟩
                have hxn : x < L.length := by have := hst.2.1; omega
                have hcq := cell_keep hsk.bel (HCRR.out q hql)
                rw [hx] at hcq
                have HCR : Hid (W1.cell? ⟨b1, o1 + q, none⟩ = some (.int .i64 (x : Int))) := by have := HCRR.out q hql; rwa [hx] at this
                have hlen := hbf.len
                have hox := hsk.out.cells' x (by omega)
                have hIo := hsk.out.1 _ (nth_mem (xs := out) (i := x) (by omega))
                have hnear : nearB L m x = true := by show hasB _ _ = true; rw [hasB_iff]; exact ⟨q, hql, hx⟩
                have HX4 := Lib.hid (HX.out.keep hsk.bel)
                have hml := hbf.met_le
                have HSK := Lib.hid hsk
                have HBF := Lib.hid hbf
                have HDN := Lib.hid hdone
                have HXX := Lib.hid hx
                have HM := Lib.hid hm
                have HNR := Lib.hid hnear
                by_cases hneg : nth out x < 0
                · have hdn : decide (nth out x < 0) = true := by simpa using hneg
                  by_cases hxs : inS xs x = true
                  · obtain ⟨gm, cm', e1, hgmB, hgml, hcm1, hcm2⟩ := hsk.met.posB (by omega)
                    subst e1
                    have hcj := hsk.met.cells' j hjl
                    rw [hm] at hcj
                    have hmn' : m < out.length := by omega
                    have hom := hsk.out.cells' m hmn'
                    have hd0 := hbf.out_nonneg hjl
                    rw [hm, Int.toNat_natCast] at hd0
                    have hd1 : nth out m < (L.length : Int) := by
                      have := atD_lt hS.out (hbf.dist m hmn hd0)
                      omega
                    have hI1 : I64 (nth out m + 1) := by unfold I64; omega
                    obtain ⟨_, _, hfx, _⟩ := hsk.out.laidAt' hlen hxn hI1
                    have HPUT := Lib.hid (hsk.put hlen hxn hI1)
                    have HADD : Hid (Bfs (nearB L) (inS xs) u L.length (out.set x (nth out m + 1)) (met ++ [(x : Int)]) j) := by
                      have := hbf.add hS.out hjl hxn (by rw [hm, Int.toNat_natCast]; exact hnear) hxs hneg
                      rwa [hm, Int.toNat_natCast] at this
                    have hw1 : IntKind.i64.wrap (nth out m + 1) = nth out m + 1 := IntWalk.i64_in _ (by omega)
                    clear hsk hbf hdone hx hm hnear hst hneg
                    go_wp2_with (go_at_call 100; refine (l1Has_any _ _ _ _ HX4.out).mono ?_; rintro e w' ⟨rfl, rfl⟩; rw [show hasB xs (x : Int) = true from hxs])
                    go_region
                    have hzz : (w4.setCell ⟨g, x, none⟩ (.int .i64 (nth out m + 1))).heap.size = w4.heap.size := by simp
                    have hcq2 : (w4.setCell ⟨g, x, none⟩ (.int .i64 (nth out m + 1))).drew.cell? ⟨b1, o1 + q, none⟩ = some (.int .i64 (x : Int)) := cell_keep (HPUT.out.later (Below.refl _ _).drew).bel (HCR.out)
                    have HS5 : Hid (Seek W1 g cap L.length (out.set x (nth out m + 1)) met (.slice (some ⟨gm, 0, none⟩) met.length cm') (w4.setCell ⟨g, x, none⟩ (.int .i64 (nth out m + 1))).drew) := HPUT.out.later (Below.refl _ _).drew
                    obtain ⟨w5, hw5⟩ : ∃ w5, (w4.setCell ⟨g, x, none⟩ (.int .i64 (nth out m + 1))).drew = w5 := ⟨_, rfl⟩
                    rw [hw5] at hcq2 HS5 ⊢
                    clear hw5 hcj hom hfx hcq hox HPUT HSK
                    go_wp2_with (at_builtin; refine wpList_append_lies _ rfl (.tmp 83) (.tmp 88) 36 rfl W1.heap.size 2 i0 (.int .i64 0) 1 8 Tryd.underlying36 hi hz0 hz1 hz2 rfl (by decide) _ _ _ rfl (HS5.out.met.owns.alloc _) ⟨w5.heap.size, 0, none⟩ 1 1 [.int .i64 (x : Int)] rfl rfl ?d1 ?d2 (by decide) ?d3 ?d4 ?d5 (w5.heap.size + 1) ?d6 ?_)
                    case d1 =>
                      intro j u hj
                      match j, hj with
                      | 0, hj => simp at hj; subst hj; simp [Addr.add]
                    case d2 => intro u hu; simp at hu; subst hu; rfl
                    case d3 => unfold maxLen; omega
                    case d4 => omega
                    case d5 => have := HS5.out.bel.size; simp; omega
                    case d6 => simp
                    intro g5 cap5 w6 hown6 hgrow6 hat6 hlt6
                    have HS6 : Hid (Seek W1 g cap L.length (out.set x (nth out m + 1)) (met ++ [(x : Int)]) (.slice (some ⟨g5, 0, none⟩) (met.length + 1) cap5) w6) := HS5.out.more (by unfold I64; omega) (by unfold maxLen; omega) hown6 hgrow6 (fun k hk => by
                      simp only [Value.ownBlock, Option.some.injEq] at hk hat6 ⊢
                      rcases hat6 with h | h
                      · left; omega
                      · right; omega)
                    clear hown6 hgrow6 hat6 HS5
                    go_wp2
                    go_roundw
                    case rel =>
                      refine ⟨_, _, q + 1, by omega, by go_num, HS6.out, HADD.out, by simp; omega, by rw [nth_append_lt hjl]; exact HM.out, fun p hp hs => ?_⟩
                      rcases Nat.lt_succ_iff_lt_or_eq.1 hp with h' | h'
                      · by_cases e : (nth (nthR L m) p).toNat = x
                        · rw [e, nth_set_same (by omega)]; omega
                        · rw [nth_set_other (fun h => e h.symm)]; exact HDN.out p h' hs
                      · subst h'; rw [HXX.out, Int.toNat_natCast, nth_set_same (by omega)]; omega
                    case measure => simp [intOf]; omega
                  · have hxs' : inS xs x = false := by simpa using hxs
                    clear hsk hbf hdone hx hm hnear hst hneg hxs
                    have HXS := Lib.hid hxs'
                    go_wp2_with (go_at_call 100; refine (l1Has_any _ _ _ _ HX4.out).mono ?_; rintro e w' ⟨rfl, rfl⟩; rw [show hasB xs (x : Int) = false from hxs'])
                    go_roundw
                    case rel =>
                      refine ⟨out, met, q + 1, by omega, by go_num, HSK.out, HBF.out, hjl, HM.out, fun p hp hs => ?_⟩
                      rcases Nat.lt_succ_iff_lt_or_eq.1 hp with h' | h'
                      · exact HDN.out p h' hs
                      · subst h'; rw [HXX.out, Int.toNat_natCast, HXS.out] at hs; cases hs
                    case measure => simp [intOf]; omega
                · have hdn : decide (nth out x < 0) = false := by simpa using hneg
                  have HNG := Lib.hid hneg
                  clear hsk hbf hdone hx hm hnear hst hneg
                  go_wp2
                  go_roundw
                  case rel =>
                    refine ⟨out, met, q + 1, by omega, by go_num, HSK.out, HBF.out, hjl, HM.out, fun p hp hs => ?_⟩
                    rcases Nat.lt_succ_iff_lt_or_eq.1 hp with h' | h'
                    · exact HDN.out p h' hs
                    · subst h'; rw [HXX.out, Int.toNat_natCast]; have := HNG.out; omega
                  case measure => simp [intOf]; omega
              · obtain rfl : q = (nthR L m).length := by omega
                have hnx := hbf.next hjl (fun x hx ha hs => by
                  rw [hm, Int.toNat_natCast] at ha
                  obtain ⟨p, hp, e⟩ := (hasB_iff _ _).1 ha
                  have := hdone p hp (by rw [e]; exact hs)
                  rw [e] at this
                  exact this)
                have HSK := Lib.hid hsk
                have HNX := Lib.hid hnx
                clear hsk hbf hdone hnx
                go_wp2
                go_roundw
                case rel => exact ⟨out, met, j + 1, by go_num, HSK.out, HNX.out⟩
                case measure => simp [intOf]; omega
          · obtain rfl : j = met.length := by have := hbf.le; omega
            have HE : Hid (distL L.length (nearB L) (inS xs) u = out) := (hbf.finish hS.out).symm
            clear hsk hbf
            go_wp2
            go_ret
            exact ⟨_, _, _, rfl, by rw [HE.out]; exact HSK.out.out.mono (by rw [HS1.out]; omega), HA.out.trans (HSK.out.bel.mono (by rw [HS1.out]; omega))⟩
      · have hin' : inS xs u = false := by simpa using hin
        rw [show hasB xs (u : Int) = false from hin']
        have HE : Hid (distL L.length (nearB L) (inS xs) u = List.replicate L.length (-1)) := distL_off _ hin'
        clear hin hin'
        go_wp2
        go_ret
        exact ⟨_, _, _, rfl, by rw [HE.out]; exact HO2.out.mono (by rw [HS1.out]; omega), HA.out.trans (HB2.out.mono (by rw [HS1.out]; omega))⟩

end Go.Proofs.YtjbfoiolcpigfaaDoor
