/- The texts Z4, LawPartsOf, Frame, FrameD, joined. -/
import Derived.Test.YtjbfoiolcpigfaaDoorQ4
import Derived.Test.YtjbfoiolcpigfaaDoorQ3
import Derived.RangeFuncFrom
import Derived.Test.YtjbfoiolcpigfaaDoorD3
import Derived.Deep.RegionHeld3
import Derived.Test.YtjbfoiolcpigfaaDoorRows
import Derived.Test.YtjbfoiolcpigfaaDoorBase
import Derived.ProofKit
import Derived.OpenShut
import Derived.ShutString
import Derived.ChangeOld
import Derived.Deep.Matrix
import Derived.Test.YtjbfoiolcpigfaaDoorTie
import Derived.Test.YtjbfoiolcpigfaaDoorCards
import Derived.Test.YtjbfoiolcpigfaaDoorQ2
import Derived.LaidMore
import Derived.Stop.Joined
import Derived.Lib.LaidTab
import Derived.SevenTiedAt

/- Walks: PartsOf, of the program. -/
namespace Go.Proofs.YtjbfoiolcpigfaaDoor
open Go.RowKit Go.Shelf
attribute [local go_sem] Oper.semAt_some

theorem OwnRow.kept {T : TypeId} {w w' : World} {B : Nat} {v : Value} {xs : List Int} (h : OwnRow T w B v xs) (hk : ∀ (k : Nat) (cs : Array Value) (fr : Nat × Nat), w.heap[k]? = some (Obj.cells cs T fr) → w'.heap[k]? = some (Obj.cells cs T fr)) : OwnRow T w' B v xs := by
  obtain ⟨h1, h2, h3⟩ := h
  refine ⟨h1, h2, ?_⟩
  rcases h3 with h3 | ⟨g, cap, cur, e, hg, hh, r⟩
  · exact Or.inl h3
  · exact Or.inr ⟨g, cap, cur, e, hg, hk _ _ _ hh, r⟩
theorem OwnGrid.kept {T T1 : TypeId} {w w' : World} {B : Nat} {v : Value} {L : List (List Int)} (h : OwnGrid T T1 w B v L) (hk : ∀ (k : Nat) (cs : Array Value) (U : TypeId) (fr : Nat × Nat), U = T ∨ U = T1 → w.heap[k]? = some (Obj.cells cs U fr) → w'.heap[k]? = some (Obj.cells cs U fr)) : OwnGrid T T1 w' B v L := by
  obtain ⟨R, h2, h3, h4, h5⟩ := h
  refine ⟨R, h2, ?_, fun i hi => (h4 i hi).kept (fun k cs fr h => hk k cs T fr (.inl rfl) h), h5⟩
  rcases h3 with h3 | ⟨g, cap, cur, e, hg, hh, r⟩
  · exact Or.inl h3
  · exact Or.inr ⟨g, cap, cur, e, hg, hk _ _ _ _ (.inr rfl) hh, r⟩

/-- The program's list of parts, half done. -/
def PI (w : World) (bx B bn : Nat) (L : List (List Int)) (W : World) : Prop :=
  W.heap[bx + 1]? = some (.cells #[.pointer (some ⟨bn, 0, none⟩)] 113 (0, 0)) ∧ (∃ val, W.heap[bx]? = some (.cells #[val] 27 (0, 0)) ∧ OwnGrid 2 36 W B val L) ∧ Below w.heap.size w W
theorem PI.own {β : Type} (w : World) (bx B bn C : Nat) (f : β → List (List Int)) (hC : w.heap.size ≤ C) : OwnFrom C (fun s W => PI w bx B bn (f s) W) := by
  rintro s W W' row ⟨hpt, ⟨val, hb, hg⟩, hbel⟩ hgr hr
  have hk : ∀ (k : Nat) (cs : Array Value) (U : TypeId) (fr : Nat × Nat), W.heap[k]? = some (Obj.cells cs U fr) → W'.heap[k]? = some (Obj.cells cs U fr) := fun k cs U fr h => by
    refine (hgr.block k (Array.getElem?_eq_some_iff.1 h).1 ?_).trans h
    intro e
    obtain ⟨_, o, ho, hc⟩ := hr k e.symm
    rw [h] at ho; cases ho; simp [Obj.isCells] at hc
  refine ⟨hk _ _ _ _ hpt, ⟨val, hk _ _ _ _ hb, hg.kept (fun k cs U fr _ h => hk k cs U fr h)⟩, ?_⟩
  exact hbel.trans ⟨hgr.os, hgr.tape, hgr.output, hgr.size, fun k hk' => hgr.block k (by have := hbel.size; omega) (fun e => by have := (hr k e.symm).1; omega)⟩

section
variable {F : Fence} {n : Nat} {P : Program} {ops : Array Oper} {Q : Exit → Act → World → Prop}
theorem anyIn_one {fuel : Nat} {listed : Array Bool} {a : Act} {w : World} (i : Nat) (hr : Region.ready .any ops listed = [i]) (h : wpOpIn F n P ops Q i (wpAnyIn F n P .any ops Q fuel (listed.setIfInBounds i true)) a w) : wpAnyIn F n P .any ops Q (fuel + 1) listed a w := by
  refine ⟨fun h0 => (by rw [hr] at h0; cases h0), fun k hk => ?_⟩
  rw [hr] at hk
  simp at hk
  subst hk
  exact h
theorem anyIn_two {fuel : Nat} {listed : Array Bool} {a : Act} {w : World} (i j : Nat) (hr : Region.ready .any ops listed = [i, j]) (h : wpOpIn F n P ops Q i (wpAnyIn F n P .any ops Q fuel (listed.setIfInBounds i true)) a w)
    (h' : wpOpIn F n P ops Q j (wpAnyIn F n P .any ops Q fuel (listed.setIfInBounds j true)) a w) : wpAnyIn F n P .any ops Q (fuel + 1) listed a w := by
  refine ⟨fun h0 => (by rw [hr] at h0; cases h0), fun k hk => ?_⟩
  rw [hr] at hk
  simp at hk
  rcases hk with rfl | rfl
  · exact h
  · exact h'
theorem opIn_at {i : Nat} {o : Oper} {K : Act → World → Prop} {a : Act} {w : World} (ho : ops[i]? = some o) (hg : o.guard = none) (h : o.wpIn F n P a w K Q) : wpOpIn F n P ops Q i K a w := by
  unfold wpOpIn
  rw [ho]
  have hw : Region.wanted o (yielded ops a.tmps) = true := by simp [Region.wanted, hg]
  simp only [hw, if_true]
  exact h
theorem wpIn_append_own (w : World) {o : Oper} {a : Act} {K : Act → World → Prop} (s x : Operand) (t : TypeId) (hop : o.op = Op.call { callee := Callee.builtin Builtin.append, args := #[s, x], argTypes := #[t, t] })
    (base : Nat) (e : TypeId) (i : TypeInfo) (z : Value) (size bytes : Nat) (h1 : P.underlying t = some (.slice e)) (h2 : P.info? e = some i) (h3 : i.zero = some z) (h4 : i.size = size) (h5 : i.bytes = bytes) (h6 : z.cells.size = size) (h7 : 0 < size)
    (v : Value) (k : Nat) (xs : List Value) (hs : a.eval s = v) (hown : w.ownsRow base e size v k xs) (ad : Addr) (m c : Nat) (news : List Value) (hx : a.eval x = .slice (some ad) m c) (hn : news.length = m * size)
    (hc : ∀ j u, news[j]? = some u → w.cell? (ad.add j) = some u) (h1c : ∀ u ∈ news, u.oneCell' = true) (b1 : k + m ≤ maxLen) (b2 : (k + m) * bytes ≤ 140737488355328) (b3 : base ≤ w.heap.size)
    (hK : ∀ v' w', w'.ownsRow base e size v' (k + m) (xs ++ news) → w.grownBy w' v.ownBlock → K (a.put o.dst v') w') : o.wpIn F n P a w K Q := by
  obtain ⟨v', w', hrun, r1, r2, r3⟩ := run_append_own (P := P) w base t o.type e i z size bytes h1 h2 h3 h4 h5 h6 h7 v k xs hown ad m c news hn hc h1c b1 b2 b3
  unfold Oper.wpIn
  refine ⟨?_, ?_⟩
  · simp [Oper.about, hop, resolve, Target.leads, Sem.run_pure]
  · rw [Oper.semAt_plain F _ _ (by rw [hop]; intro c hc'; cases hc')]
    simp [execOp, hop, resolve, invoke, builtin, hs, hx, hrun, Result.andThen]
    exact hK v' w' r1 r2
end

set_option maxHeartbeats 4000000 in
set_option maxRecDepth 100000 in
theorem implPartsOf_any (v : Value) (L : List (List Int)) (w : World) (h : GridAt w v L) (hT : TabAt w) : Calls Tryd.prog 26 #[.agg #[v]] w (GaveGrid w (partsL L)) := by
  obtain ⟨j0, hj, hy0, hy1, hy2⟩ := info_parts Tryd.infoR
  obtain ⟨a0, c0, rfl⟩ := h.slice
  have ha : Below w.heap.size w (w.alloc (.cells #[.slice a0 L.length c0] 29)) := (Below.refl _ _).alloc (Nat.le_refl _) _
  have hk := h.keep ha
  have HA := Lib.hid ha
  clear ha
  refine calls_marks Tryd.func26 rfl ?_
  simp only [Tryd.ntmps26, List.size_toArray, List.length_cons, List.length_nil, Nat.reduceAdd, Nat.reduceSub, Array.replicate_succ, Array.replicate_zero, List.push_toArray, List.append_toArray, List.nil_append, List.cons_append]
  go_wp2_with fail
  refine (netOf_any _ _ _ hk).mono ?_
  rintro e w1 ⟨rfl, hb1⟩
  have HB1 : Hid (Below w.heap.size w w1) := HA.out.trans (hb1.mono (by simp))
  have hz : w.heap.size ≤ w1.heap.size := HB1.out.size
  have hnb := netBlk_new w1 0 (fun _ => 0)
  clear hb1 hk h HA
  by_cases hG : GraphP L
  · have hzz := hG.1
    have HLT : Hid (∀ i, rowM L i < 65536) := fun i => rowM_lt (by omega) (fun v hv => (hG.2.1 v hv).1) i
    have HNE := Lib.hid (nearM_eq hG)
    have HSY : Hid (∀ a b, nearM (rowM L) a b = nearM (rowM L) b a) := by rw [HNE.out]; exact nearB_symm hG
    have HE : Hid (partsL L = (headsTo (nearM (rowM L)) L.length L.length).map (fun v => listM (compN (nearM (rowM L)) L.length v))) := by
      show _ = _; unfold partsL; rw [if_pos hG, HNE.out, ← headsTo_map, List.map_map]; rfl
    rw [decide_eq_true hG, netArr_yes hG]
    clear hG
    go_wp2_with (first | (refine wpList_store_net rfl 74 (.tmp 3) (.tmp 10) rfl w1.heap.size L.length (rowM L) rfl rfl Tryd.sizeNet 0 (fun _ => 0) hnb ?_; intro w3 hp; have HNet := Lib.hid hp.net.at; have HB3 : Hid (Below w.heap.size w w3) := (HB1.out.alloc hz _).trans (hp.below.mono hz); clear hp) | (go_at_call 78; refine (parts_any _ _).mono ?_; rintro e w' ⟨rfl, rfl⟩))
    have hz3 : w.heap.size ≤ w3.heap.size := HB3.out.size
    obtain ⟨w5, hw5⟩ : ∃ w5, ((w3.alloc (.cells #[] 36)).alloc (.cells #[.slice (some ⟨w3.heap.size, 0, none⟩) 0 0] 27)).alloc (.cells #[.pointer (some ⟨w1.heap.size, 0, none⟩)] 113) = w5 := ⟨_, rfl⟩
    have hb5 : Below w3.heap.size w3 w5 := by rw [← hw5]; exact (((Below.refl _ _).alloc (Nat.le_refl _) _).alloc (by simp) _).alloc (by simp; omega) _
    have hs5 : w5.heap.size = w3.heap.size + 3 := by rw [← hw5]; simp
    have hbx5 : w5.heap[w3.heap.size + 1]? = some (.cells #[.slice (some ⟨w3.heap.size, 0, none⟩) 0 0] 27 (0, 0)) := by
      rw [← hw5]
      have h1 := World.alloc_heap_new (w3.alloc (.cells #[] 36)) (.cells #[.slice (some ⟨w3.heap.size, 0, none⟩) 0 0] 27)
      rw [World.size_alloc] at h1
      exact (Below.heap_alloc _ _ _ (by simp)).trans h1
    have hpt5 : w5.heap[w3.heap.size + 1 + 1]? = some (.cells #[.pointer (some ⟨w1.heap.size, 0, none⟩)] 113 (0, 0)) := by
      rw [← hw5]
      have h1 := World.alloc_heap_new ((w3.alloc (.cells #[] 36)).alloc (.cells #[.slice (some ⟨w3.heap.size, 0, none⟩) 0 0] 27)) (.cells #[.pointer (some ⟨w1.heap.size, 0, none⟩)] 113)
      simpa using h1
    have hog5 : OwnGrid 2 36 w5 w3.heap.size (.slice (some ⟨w3.heap.size, 0, none⟩) 0 0) [] := by
      have h1 := own_none (T := 2) (T1 := 36) w3 w3.heap.size (Nat.le_refl _)
      refine h1.keep ?_
      rw [← hw5]
      exact ((Below.refl _ _).alloc (Nat.le_refl _) _).alloc (by simp) _
    have HPI : Hid (PartIn w5 (w3.heap.size + 2) w1.heap.size L.length (rowM L)) := by
      refine ⟨?_, HNet.out.keep hb5, (hT.keep HB3.out).keep hb5⟩
      subst hw5; go_simp
    have HSQ := Lib.hid (parts1_seq 8 (w3.heap.size + 2) w1.heap.size L.length (rowM L) w5 HLT.out hzz.2 HSY.out HPI.out)
    have hbn : w1.heap.size < w3.heap.size := block_lt_of_cell HNet.out.1
    have H0 : Hid (PI w (w3.heap.size + 1) w3.heap.size w1.heap.size [] w5) := ⟨hpt5, ⟨_, hbx5, hog5⟩, HB3.out.trans (hb5.mono hz3)⟩
    simp only [Nat.add_assoc, Nat.reduceAdd] at *
    rw [hw5]
    clear hw5 hb5 hbx5 hpt5 hog5 HPI HNet HB3 HB1 hnb
    refine (wpIn_wide (n := 9)).1 ?_
    refine wpIn_rangeFunc_ownF rfl (by omega) (gf := 123) (lb := #[.pointer (some ⟨w3.heap.size + 2, 0, none⟩)]) rfl trivial (enters_of Tryd.func123 (by kernel_rfl) rfl)
      HSQ.out (fun h k => h.trans k) (fun W l o o' hl ho h1 h2 => KeepsBut.putObj W l o' ⟨by omega, by omega, by omega⟩) (Below.refl _ _) (fun _ => rfl)
      (fun pre W => PI w (w3.heap.size + 1) w3.heap.size w1.heap.size (pre.map (fun v => listM (compN (nearM (rowM L)) L.length v))) W)
      (fun _ _ _ => False)
      (PI.own w _ _ _ _ _ (by omega))
      (fun _ _ _ _ _ h _ _ => h)
      H0.out
      ?a1 ?assign ?body ?done ?stop
    case assign =>
      intro l x W K hK
      simp only [encM]
      gi_wp2
      exact hK
    case body =>
      rintro l pre x W ⟨hpt, ⟨val, hbx, hog⟩, hb⟩ hlen
      have HPT := Lib.hid hpt
      have hbc : W.cell? ⟨w3.heap.size + 1, 0, none⟩ = some val := by rw [cell_of_row W _ 0 _ _ _ hbx]; rfl
      have hbf : W.frozen? ⟨w3.heap.size + 1, 0, none⟩ = false := frozen_of_row W _ 0 _ _ hbx
      have hcl := compN_lt (nearM (rowM L)) L.length x
      obtain ⟨R, hR, hRr, hRd⟩ := hog.owns
      have HR := Lib.hid hR
      have HRr := Lib.hid hRr
      have HRd := Lib.hid hRd
      have HBX := Lib.hid hbx
      have HB := Lib.hid hb
      clear hR hRr hRd hog hb
      have hmix : Tryd.prog.follows .mixedOrders = true := by kernel_rfl
      gi_wp2_with fail
      refine wpIn_region_any hmix ?_
      refine anyIn_two 0 1 (by kernel_rfl) ?o0 ?o1
      case' o1 =>
        refine opIn_at rfl rfl ?_
        simp [go_sem, Oper.wpIn, Oper.about, Oper.uponIn]
        refine anyIn_two 0 2 (by kernel_rfl) ?o2 ?o3
      case' o3 =>
        refine opIn_at rfl rfl ?_
        simp [go_sem, Oper.wpIn, Oper.about, Oper.uponIn]
        refine ⟨trivial, ?_⟩
        refine (CallsIn.inRound l (callsIn_wide.2 (list_any _ _ hcl))).mono ?_
        rintro e w7 ⟨n7, a7, c7, rfl, ho7, hb7⟩
        have hbc7 := cell_keep hb7 (cell_keep (Below.refl _ _).drew hbc)
        refine anyIn_two 0 3 (by kernel_rfl) ?o4 ?o5
      case' o0 =>
        refine opIn_at rfl rfl ?_
        simp [go_sem, Oper.wpIn, Oper.about, Oper.uponIn, hbc]
        refine anyIn_one 1 (by kernel_rfl) ?_
        refine opIn_at rfl rfl ?_
        simp [go_sem, Oper.wpIn, Oper.about, Oper.uponIn]
        refine anyIn_one 2 (by kernel_rfl) ?_
        refine opIn_at rfl rfl ?_
        simp [go_sem, Oper.wpIn, Oper.about, Oper.uponIn]
        refine ⟨trivial, ?_⟩
        refine (CallsIn.inRound l (callsIn_wide.2 (list_any _ _ hcl))).mono ?_
        rintro e w7 ⟨n7, a7, c7, rfl, ho7, hb7⟩
        have hbc7 := cell_keep hb7 (cell_keep (Below.refl _ _).drew hbc)
        refine anyIn_one 3 (by kernel_rfl) ?_
        refine opIn_at rfl rfl ?_
        simp [go_sem, Oper.wpIn, Oper.about, Oper.uponIn]
      case' o2 =>
        refine opIn_at rfl rfl ?_
        simp [go_sem, Oper.wpIn, Oper.about, Oper.uponIn, hbc]
        refine anyIn_one 2 (by kernel_rfl) ?_
        refine opIn_at rfl rfl ?_
        simp [go_sem, Oper.wpIn, Oper.about, Oper.uponIn]
        refine ⟨trivial, ?_⟩
        refine (CallsIn.inRound l (callsIn_wide.2 (list_any _ _ hcl))).mono ?_
        rintro e w7 ⟨n7, a7, c7, rfl, ho7, hb7⟩
        have hbc7 := cell_keep hb7 (cell_keep (Below.refl _ _).drew hbc)
        refine anyIn_one 3 (by kernel_rfl) ?_
        refine opIn_at rfl rfl ?_
        simp [go_sem, Oper.wpIn, Oper.about, Oper.uponIn]
      case' o4 =>
        refine opIn_at rfl rfl ?_
        simp [go_sem, Oper.wpIn, Oper.about, Oper.uponIn, hbc7]
        refine anyIn_one 3 (by kernel_rfl) ?_
        refine opIn_at rfl rfl ?_
        simp [go_sem, Oper.wpIn, Oper.about, Oper.uponIn]
      case' o5 =>
        refine opIn_at rfl rfl ?_
        simp [go_sem, Oper.wpIn, Oper.about, Oper.uponIn]
        have hbc8 := cell_keep (w' := w7.alloc (.cells #[.slice a7 n7 c7] 36)) ((Below.refl _ _).alloc (Nat.le_refl _) _) hbc7
        refine anyIn_one 0 (by kernel_rfl) ?_
        refine opIn_at rfl rfl ?_
        simp [go_sem, Oper.wpIn, Oper.about, Oper.uponIn, hbc8]
      all_goals (
        have hb7W : Below W.heap.size W w7 := (Below.refl _ _).drew.trans hb7
        have hbA : Below w7.heap.size w7 (w7.alloc (.cells #[.slice a7 n7 c7] 36)) := (Below.refl _ _).alloc (Nat.le_refl _) _
        have hbWA : Below W.heap.size W (w7.alloc (.cells #[.slice a7 n7 c7] 36)) := hb7W.trans (hbA.mono hb7W.size)
        have hzW : w3.heap.size ≤ W.heap.size := by have := (Array.getElem?_eq_some_iff.1 HBX.out).1; omega
        have hzA := hbWA.size
        refine anyIn_one 4 (by kernel_rfl) ?_
        refine opIn_at rfl rfl ?_
        refine wpIn_append_own _ (.tmp 17) (.tmp 20) 27 rfl w3.heap.size 36 j0 (.slice none 0 0) 1 24 Tryd.underlying27 hj hy0 hy1 hy2 rfl (by decide) val _ _ rfl (ownsRow_keep HR.out hbWA) ⟨w7.heap.size, 0, none⟩ 1 1 [.slice a7 n7 c7] rfl rfl ?_ ?_ ?_ ?_ ?_ ?_
        · intro j u hj
          match j, hj with
          | 0, hj => simp at hj; subst hj; simp [Addr.add]
        · intro u hu; simp at hu; subst hu; rfl
        · simp; unfold maxLen; omega
        · simp; omega
        · omega
        intro v8 w8 hown8 hgrow8
        have hog8 := OwnGrid.snoc (T := 2) (T1 := 36) (by decide) hbWA hzW (ho7.keep hbA) rfl (by simp; unfold maxLen; omega) R HR.out HRr.out HRd.out hown8 hgrow8
        have hbox8 : w8.heap[w3.heap.size + 1]? = some (.cells #[val] 27 (0, 0)) := by
          rw [hgrow8.block _ (by have := (Array.getElem?_eq_some_iff.1 HBX.out).1; omega) ?_]
          · exact (hbWA.block _ (Array.getElem?_eq_some_iff.1 HBX.out).1).trans HBX.out
          · intro e
            rcases HR.out.2 with ⟨e3, _⟩ | ⟨g', cap', cur', e3, _, hh', _⟩
            · rw [e3] at e; simp [Value.ownBlock] at e
            · rw [e3] at e
              simp [Value.ownBlock] at e
              subst e
              rw [HBX.out] at hh'
              simp at hh'
        obtain ⟨a8, c8, e8⟩ := hog8.grid.slice
        subst e8
        have hbc8' : w8.cell? ⟨w3.heap.size + 1, 0, none⟩ = some val := by rw [cell_of_row w8 _ 0 _ _ _ hbox8]; rfl
        have hbf8 : w8.frozen? ⟨w3.heap.size + 1, 0, none⟩ = false := frozen_of_row w8 _ 0 _ _ hbox8
        have hne : ∀ k cs U fr, W.heap[k]? = some (Obj.cells cs U fr) → U ≠ 36 → some k ≠ val.ownBlock := fun k cs U fr hk hU e => by
          rcases HR.out.2 with ⟨e3, _⟩ | ⟨g', cap', cur', e3, _, hh', _⟩
          · rw [e3] at e; simp [Value.ownBlock] at e
          · rw [e3] at e
            simp [Value.ownBlock] at e
            subst e
            rw [hk] at hh'
            simp at hh'
            exact hU hh'.2.1
        have hge : ∀ k, val.ownBlock = some k → w3.heap.size ≤ k := fun k hk => (HR.out.lt k hk).1
        have HKO : Hid (KeepsOthers W (w8.setCell ⟨w3.heap.size + 1, 0, none⟩ (.slice a8 (pre.map (fun v => listM (compN (nearM (rowM L)) L.length v)) ++ [listM (compN (nearM (rowM L)) L.length x)]).length c8))) := by
          refine KeepsOthers.trans (KeepsOthers.trans (?_ : KeepsOthers W (w7.alloc (.cells #[.slice a7 n7 c7] 36))) (KeepsOthers.of_grownBy hgrow8 ?_)) (KeepsOthers.setCell _ _ _)
          · exact ⟨hbWA.size, fun k o hk _ => (hbWA.block k (Array.getElem?_eq_some_iff.1 hk).1).trans hk⟩
          · intro j o hj ho
            rcases (ownsRow_keep HR.out hbWA).2 with ⟨e3, _⟩ | ⟨g', cap', cur', e3, _, hh', _⟩
            · rw [e3] at hj; simp [Value.ownBlock] at hj
            · rw [e3] at hj
              simp [Value.ownBlock] at hj
              subst hj
              rw [hh'] at ho; cases ho; rfl
        have HKB : Hid (KeepsBut (fun k => k ≠ w3.heap.size + 2 ∧ k ≠ w1.heap.size ∧ k ≠ 0) W (w8.setCell ⟨w3.heap.size + 1, 0, none⟩ (.slice a8 (pre.map (fun v => listM (compN (nearM (rowM L)) L.length v)) ++ [listM (compN (nearM (rowM L)) L.length x)]).length c8))) := by
          refine (KeepsBut.trans (KeepsBut.below hbWA) ⟨hgrow8.size, fun k hk hn => hgrow8.block k hk ?_⟩).trans (KeepsBut.setCell _ _ _ ⟨by simp, by simp; omega, by simp⟩)
          intro e
          apply hn
          refine ⟨fun e2 => ?_, fun e2 => ?_, fun e2 => ?_⟩
          · subst e2; exact hne _ _ _ _ HPT.out (by decide) e
          · have := hge k e.symm; omega
          · have := hge k e.symm; omega
        have HPI : Hid (PI w (w3.heap.size + 1) w3.heap.size w1.heap.size ((pre ++ [x]).map (fun v => listM (compN (nearM (rowM L)) L.length v))) (w8.setCell ⟨w3.heap.size + 1, 0, none⟩ (.slice a8 (pre.map (fun v => listM (compN (nearM (rowM L)) L.length v)) ++ [listM (compN (nearM (rowM L)) L.length x)]).length c8))) := by
          refine ⟨?_, ⟨_, heap_setCell_same w8 _ 0 _ _ _ hbox8, ?_⟩, ?_⟩
          · rw [heap_setCell_other _ _ _ _ (by simp)]
            exact (hgrow8.block _ (by have := (Array.getElem?_eq_some_iff.1 HPT.out).1; omega) (hne _ _ _ _ HPT.out (by decide))).trans ((hbWA.block _ (Array.getElem?_eq_some_iff.1 HPT.out).1).trans HPT.out)
          · rw [List.map_append]
            refine hog8.kept (fun k cs U fr hU hk => ?_)
            rw [heap_setCell_other _ _ _ _ ?_]
            · exact hk
            · intro e
              simp at e
              subst e
              rw [hbox8] at hk
              simp at hk
              rcases hU with h | h <;> (rw [h] at hk; exact absurd hk.2.1 (by decide))
          · exact ((HB.out.trans (hbWA.mono HB.out.size)).grown hgrow8 (by have := HB.out.size; omega) (fun j hj => by have := hge j hj; omega)).setCell (p := ⟨w3.heap.size + 1, 0, none⟩) (by simp; omega) _
        clear hog8 hgrow8 hown8 hbox8 hne hge ho7 hb7 hb7W hbA hbWA
        refine anyIn_one 5 (by kernel_rfl) ?_
        refine opIn_at rfl rfl ?_
        simp [go_sem, Oper.wpIn, Oper.about, Oper.uponIn, hbc8', hbf8]
        refine ⟨by kernel_rfl, ?_⟩
        have hlen8 : (pre.map (fun v => listM (compN (nearM (rowM L)) L.length v)) ++ [listM (compN (nearM (rowM L)) L.length x)]).length = pre.length + 1 := by simp
        rw [hlen8] at HKO HKB HPI
        exact ⟨HKO.out, HKB.out, HPI.out⟩)
    case done =>
      rintro D ys W hD rfl ⟨hpt, ⟨val, hbx, hog⟩, hb⟩ hK
      obtain ⟨a8, c8, e8⟩ := hog.grid.slice
      subst e8
      have hbc : W.cell? ⟨w3.heap.size + 1, 0, none⟩ = some (.slice a8 ((headsTo (nearM (rowM L)) L.length L.length).map (fun v => listM (compN (nearM (rowM L)) L.length v))).length c8) := by rw [cell_of_row W _ 0 _ _ _ hbx]; rfl
      have HK := Lib.hid hK
      have hDW : D < W.heap.size := (Array.getElem?_eq_some_iff.1 hK).1
      have HP : Hid (GaveGrid w (partsL L) (.returned (.slice a8 ((headsTo (nearM (rowM L)) L.length L.length).map (fun v => listM (compN (nearM (rowM L)) L.length v))).length c8)) (W.putObj D (.deferred none))) := by
        rw [HE.out]
        refine ⟨_, _, _, rfl, (hog.mono hz3).kept (fun k cs U fr _ h => ?_), hb.trans (below_put W D _ (by omega) hDW)⟩
        rw [World.putObj_heap_other (fun e => ?_)]
        · exact h
        · subst e; rw [hK] at h; cases h
      clear hpt hbx hog hb hK
      go_wp2
      refine ⟨by simp, .inl ⟨_, _, rfl, run_takeDeferred HK.out, ?_⟩⟩
      exact ⟨_, results_tmp rfl _ _ _, by simpa using HP.out⟩
    case stop =>
      rintro D c pre W _ _ h _
      exact h.elim
  · have HE : Hid (partsL L = []) := by show _ = _; unfold partsL; rw [if_neg hG]
    rw [decide_eq_false hG, netArr_no hG]
    clear hG
    go_wp2_with (refine wpList_store_net rfl 74 (.tmp 3) (.tmp 10) rfl w1.heap.size 0 (fun _ => 0) rfl rfl Tryd.sizeNet 0 (fun _ => 0) hnb ?_; intro w3 hp; have HB3 : Hid (Below w.heap.size w w3) := (HB1.out.alloc hz _).trans (hp.below.mono hz); clear hp)
    exact ⟨_, results_tmp rfl _ _ _, _, _, _, rfl, by rw [HE.out]; exact ⟨fun _ => undef, by simp, .inl ⟨rfl, rfl⟩, fun i hi => absurd hi (by simp), fun i j k _ hj => absurd hj (by simp)⟩, HB3.out⟩

end Go.Proofs.YtjbfoiolcpigfaaDoor

/- The walk of the law FnExactPartsOf, written by program (tools/lawgen2.py) out of the contracts. -/
namespace Go.Proofs.YtjbfoiolcpigfaaDoor
open Go.RowKit

set_option maxHeartbeats 4000000 in
set_option maxRecDepth 100000 in
theorem lawPartsOf (v0 : Value) (L0 : List (List Int)) (w : World) (h0 : GridAt w v0 L0) (hT : TabAt w) :
    Calls Tryd.prog 10 #[.agg #[v0]] w fun e w' => e = .returned (.bool true) ∧ Below w.heap.size w w' := by
  obtain ⟨a0, c0, rfl⟩ := h0.slice
  have hsr0 := partsL_small L0
  obtain ⟨E0, hE0⟩ : ∃ x, x = partsL L0 := ⟨_, rfl⟩
  rw [← hE0] at hsr0
  have HEQ0 := Lib.hid hE0
  clear hE0
  go_enter Tryd.func10, Tryd.ntmps10
  have ha1 : Below w.heap.size w (w.alloc (.cells #[.slice a0 L0.length c0] 55)) := ((Below.refl _ _).alloc (Nat.le_refl _) _)
  go_wp2_with fail
  refine (szGraph_any _ _ _ _ (h0.keep ha1) (by omega) (by omega)).mono ?_
  rintro e w1 ⟨rfl, hb1⟩
  have kb0_1 : w1.cell? ⟨w.heap.size, 0, none⟩ = some (.slice a0 L0.length c0) := by rw [hb1.cell (by first | (simp; done) | (simp; omega))]; go_simp
  have hz1 : w.heap.size + 1 ≤ w1.heap.size := by have hq := hb1.size; simpa using hq
  have HB1 : Hid (Below w.heap.size w w1) := ha1.trans (hb1.mono (by first | (simp; done) | (simp; omega)))
  clear ha1 hb1
  by_cases hs0 : szGrid L0 1048576 < 0
  · go_wp2
    go_ret
    exact ⟨rfl, HB1.out⟩
  have hsm0 := (szGrid_small (L := L0) (left := 1048576) (by omega) (by omega)).1
  have hle0 := (szGrid_small (L := L0) (left := 1048576) (by omega) (by omega)).2
  go_wp2_with fail
  refine (toGraph_any _ _ _ (h0.keep HB1.out) hsm0).mono ?_
  rintro e w2 ⟨np0, ap0, cp0, rfl, hop0, hb2⟩
  have kb0_2 := cell_keep hb2 kb0_1
  have Op0_2 : Hid (OwnGridU 2 36 w2 (w1.heap.size) w2.heap.size (.slice ap0 np0 cp0) L0) := (hop0.mono (by first | exact Nat.le_refl _ | simp)).under
  have hz2 : w1.heap.size ≤ w2.heap.size := hb2.size
  have HB2 : Hid (Below w.heap.size w w2) := HB1.out.trans (hb2.mono (by first | omega | (simp; omega)))
  clear kb0_1 HB1 hb2
  go_wp2_with fail
  refine (specPartsOf_any _ _ _ Op0_2.out.read).mono ?_
  rintro e w3 ⟨ns0, as0, cs0, rfl, hos0, hb3⟩
  have kb0_3 := cell_keep hb3 kb0_2
  have Op0_3 := Lib.hid (Op0_2.out.keep hb3)
  have Os0_3 : Hid (OwnGridU 2 36 w3 (w2.heap.size) w3.heap.size (.slice as0 ns0 cs0) E0) := (by have hq := hos0; rw [← HEQ0.out] at hq; exact (hq.mono (by first | exact Nat.le_refl _ | simp)).under)
  have hz3 : w2.heap.size ≤ w3.heap.size := hb3.size
  have HB3 : Hid (Below w.heap.size w w3) := HB2.out.trans (hb3.mono (by first | omega | (simp; omega)))
  clear kb0_2 Op0_2 HB2 hb3
  go_wp2_with fail
  refine (toGraph_any _ _ _ (h0.keep HB3.out) hsm0).mono ?_
  rintro e w4 ⟨nx0, ax0, cx0, rfl, hox0, hb4⟩
  have kb0_4 := cell_keep hb4 kb0_3
  have Os0_4 := Lib.hid (Os0_3.out.keep hb4)
  have Ox0_4 : Hid (OwnGridU 2 36 w4 (w3.heap.size) w4.heap.size (.slice ax0 nx0 cx0) L0) := (hox0.mono (by first | exact Nat.le_refl _ | simp)).under
  have hz4 : w3.heap.size ≤ w4.heap.size := hb4.size
  have HB4 : Hid (Below w.heap.size w w4) := HB3.out.trans (hb4.mono (by first | omega | (simp; omega)))
  clear kb0_3 Os0_3 HB3 hb4
  have ha5 : Below w4.heap.size w4 (w4.alloc (.cells #[.slice ax0 nx0 cx0] 29)) := ((Below.refl _ _).alloc (Nat.le_refl _) _)
  have kb0_4a := cell_keep ha5 kb0_4
  go_wp2_with fail
  clear kb0_4a
  refine (implPartsOf_any _ _ _ (Ox0_4.out.read.keep ha5) (hT.keep (HB4.out.trans (ha5.mono HB4.out.size)))).mono ?_
  rintro e w5 ⟨ng0, ag0, cg0, rfl, hog0, hb5⟩
  have kb0_5 := cell_keep hb5 (cell_keep ha5 kb0_4)
  have kx0_5 : w5.cell? ⟨w4.heap.size, 0, none⟩ = some (.slice ax0 nx0 cx0) := by rw [hb5.cell (by first | (simp; done) | (simp; omega))]; go_simp
  have Os0_5 := Lib.hid ((Os0_4.out.keep ha5).keep hb5)
  have Ox0_5 := Lib.hid ((Ox0_4.out.keep ha5).keep hb5)
  have Og0_5 : Hid (OwnGridU 2 36 w5 (w4.heap.size + 1) w5.heap.size (.slice ag0 ng0 cg0) E0) := (by have hq := hog0; rw [← HEQ0.out] at hq; exact (hq.mono (by first | exact Nat.le_refl _ | simp)).under)
  have hz5 : w4.heap.size + 1 ≤ w5.heap.size := by have hq := hb5.size; simpa using hq
  have HB5 : Hid (Below w.heap.size w w5) := (HB4.out.trans (ha5.mono HB4.out.size)).trans (hb5.mono (by first | omega | (simp; omega)))
  clear kb0_4 Os0_4 Ox0_4 HB4 ha5 hb5
  go_wp2_with fail
  refine (eqInt64SS_b _ _ _ _ _ Og0_5.out.read Os0_5.out.read).mono ?_
  rintro e w6 ⟨rfl, hb6⟩
  rw [decide_eq_true rfl]
  have kb0_6 := cell_keep hb6 kb0_5
  have kx0_6 := cell_keep hb6 kx0_5
  have Os0_6 := Lib.hid (Os0_5.out.keep hb6)
  have Ox0_6 := Lib.hid (Ox0_5.out.keep hb6)
  have Og0_6 := Lib.hid (Og0_5.out.keep hb6)
  have hz6 : w5.heap.size ≤ w6.heap.size := hb6.size
  have HB6 : Hid (Below w.heap.size w w6) := HB5.out.trans (hb6.mono (by first | omega | (simp; omega)))
  clear kb0_5 kx0_5 Os0_5 Ox0_5 Og0_5 HB5 hb6
  go_wp2
  go_region_held3 (fun wx => wx.cell? ⟨w.heap.size, 0, none⟩ = some (.slice a0 L0.length c0) ∧ wx.cell? ⟨w4.heap.size, 0, none⟩ = some (.slice ax0 nx0 cx0)) (first | exact ⟨kb0_6, kx0_6⟩ | exact ⟨kb0_7r1, kx0_7r1⟩ | exact ⟨kb0_7r2, kx0_7r2⟩)
    (first | (go_at_call 53; refine (toGraph_any _ _ _ ((h0.keep HB6.out).keep (Below.refl _ _).drew) hsm0).mono ?_; rintro e w7r1 ⟨ny0, ay0, cy0, rfl, hoy0, hb7r1⟩; have kb0_7r1 := cell_keep hb7r1 (cell_keep (Below.refl _ _).drew kb0_6); have kx0_7r1 := cell_keep hb7r1 (cell_keep (Below.refl _ _).drew kx0_6); have Os0_7r1 := Lib.hid ((Os0_6.out.keep (Below.refl _ _).drew).keep hb7r1); have Ox0_7r1 := Lib.hid ((Ox0_6.out.keep (Below.refl _ _).drew).keep hb7r1); have Og0_7r1 := Lib.hid ((Og0_6.out.keep (Below.refl _ _).drew).keep hb7r1); have Oy0_7r1 : Hid (OwnGridU 2 36 w7r1 (w6.heap.size) w7r1.heap.size (.slice ay0 ny0 cy0) L0) := (hoy0.mono (by first | exact Nat.le_refl _ | simp)).under; have hz7r1 : w6.heap.size ≤ w7r1.heap.size := hb7r1.size; have HB7r1 : Hid (Below w.heap.size w w7r1) := HB6.out.drew.trans (hb7r1.mono HB6.out.size); clear hb7r1) | (go_at_call 55; refine (eqGraph_any _ _ _ _ _ Ox0_7r1.out.read Oy0_7r1.out.read).mono ?_; rintro e w7r2 ⟨rfl, hb7r2⟩; have kb0_7r2 := cell_keep hb7r2 kb0_7r1; have kx0_7r2 := cell_keep hb7r2 kx0_7r1; have Os0_7r2 := Lib.hid (Os0_7r1.out.keep hb7r2); have Ox0_7r2 := Lib.hid (Ox0_7r1.out.keep hb7r2); have Og0_7r2 := Lib.hid (Og0_7r1.out.keep hb7r2); have Oy0_7r2 := Lib.hid (Oy0_7r1.out.keep hb7r2); have hz7r2 : w7r1.heap.size ≤ w7r2.heap.size := hb7r2.size; have HB7r2 : Hid (Below w.heap.size w w7r2) := HB7r1.out.trans (hb7r2.mono HB7r1.out.size); clear hb7r2; rw [decide_eq_true rfl]))
  clear kb0_6 kx0_6 Os0_6 Ox0_6 Og0_6 HB6 kb0_7r1 kx0_7r1 Os0_7r1 Ox0_7r1 Og0_7r1 Oy0_7r1 HB7r1
  have hone : (0 : Int) ≤ 1 := by omega
  have htt0 := totTo_le hsm0.2 L0.length (Nat.le_refl _)
  have htu0 : 1048576 * L0.length ≤ 1048576 * 1048576 := by have := hsm0.1; omega
  go_wp2_with fail
  refine (markGraph_any _ _ (w3.heap.size) w4.heap.size _ _ Ox0_7r2.out (by omega) (by omega) hsm0).mono ?_
  rintro e w8 ⟨rfl, hogx0, hb8⟩
  have kb0_8 := cell_apart kb0_7r2 hb8 (by dsimp only; omega)
  have kx0_8 := cell_apart kx0_7r2 hb8 (by dsimp only; omega)
  have Os0_8 := Lib.hid (Os0_7r2.out.apart hb8 (by omega))
  have Og0_8 := Lib.hid (Og0_7r2.out.apart hb8 (by omega))
  have Ox0_8 : Hid (OwnGridU 2 36 w8 (w3.heap.size) w4.heap.size (.slice ax0 nx0 cx0) (marksG L0 (1))) := hogx0
  have hz8 : w7r2.heap.size ≤ w8.heap.size := (hb8.size)
  have HB8 : Hid (Below w.heap.size w w8) := HB7r2.out.trans ((hb8.below (by first | omega | (simp; omega))).mono (by first | omega | (simp; omega)))
  clear kb0_7r2 kx0_7r2 Os0_7r2 Og0_7r2 Ox0_7r2 HB7r2 hb8
  have hkpos : 0 ≤ 1 + (totTo L0 L0.length : Int) := by omega
  go_wp2_with fail
  refine (eqInt64SS_b _ _ _ _ _ Og0_8.out.read Os0_8.out.read).mono ?_
  rintro e w9 ⟨rfl, hb9⟩
  rw [decide_eq_true rfl]
  have kb0_9 := cell_keep hb9 kb0_8
  have kx0_9 := cell_keep hb9 kx0_8
  have Os0_9 := Lib.hid (Os0_8.out.keep hb9)
  have Og0_9 := Lib.hid (Og0_8.out.keep hb9)
  have Ox0_9 := Lib.hid (Ox0_8.out.keep hb9)
  have hz9 : w8.heap.size ≤ w9.heap.size := hb9.size
  have HB9 : Hid (Below w.heap.size w w9) := HB8.out.trans (hb9.mono (by first | omega | (simp; omega)))
  clear kb0_8 kx0_8 Os0_8 Og0_8 Ox0_8 HB8 hb9
  have hrt0 := totTo_le hsr0.2 E0.length (Nat.le_refl _)
  have hru0 : 1048576 * E0.length ≤ 1048576 * 1048576 := by have := hsr0.1; omega
  go_wp2_with fail
  refine (markInt64SS_any _ _ (w4.heap.size + 1) w5.heap.size _ _ Og0_9.out (by omega) (by omega) hsr0).mono ?_
  rintro e w10 ⟨rfl, hogg0, hb10⟩
  have kb0_10 := cell_apart kb0_9 hb10 (by dsimp only; omega)
  have kx0_10 := cell_apart kx0_9 hb10 (by dsimp only; omega)
  have Os0_10 := Lib.hid (Os0_9.out.apart hb10 (by omega))
  have Ox0_10 := Lib.hid (Ox0_9.out.apart hb10 (by omega))
  have Og0_10 : Hid (OwnGridU 2 36 w10 (w4.heap.size + 1) w5.heap.size (.slice ag0 ng0 cg0) (marksG E0 (1))) := hogg0
  have hz10 : w9.heap.size ≤ w10.heap.size := (hb10.size)
  have HB10 : Hid (Below w.heap.size w w10) := HB9.out.trans ((hb10.below (by first | omega | (simp; omega))).mono (by first | omega | (simp; omega)))
  clear kb0_9 kx0_9 Os0_9 Ox0_9 Og0_9 HB9 hb10
  have hmpos : 0 ≤ 1 + (totTo E0 E0.length : Int) := by omega
  have hmne : ((1 + (totTo E0 E0.length : Int)) != (1 + (totTo E0 E0.length : Int))) = false := by simp
  go_wp2_with fail
  refine (heldInt64SS_b _ E0 _ _ Og0_10.out.read (by omega) (by omega) hsr0).mono ?_
  rintro e w11 ⟨rfl, hb11⟩
  have kb0_11 := cell_keep hb11 kb0_10
  have kx0_11 := cell_keep hb11 kx0_10
  have Os0_11 := Lib.hid (Os0_10.out.keep hb11)
  have Ox0_11 := Lib.hid (Ox0_10.out.keep hb11)
  have Og0_11 := Lib.hid (Og0_10.out.keep hb11)
  have hz11 : w10.heap.size ≤ w11.heap.size := hb11.size
  have HB11 : Hid (Below w.heap.size w w11) := HB10.out.trans (hb11.mono (by first | omega | (simp; omega)))
  clear kb0_10 kx0_10 Os0_10 Ox0_10 Og0_10 HB10 hb11
  go_wp2_with fail
  refine (toGraph_any _ _ _ (h0.keep HB11.out) hsm0).mono ?_
  rintro e w12 ⟨nq0, aq0, cq0, rfl, hoq0, hb12⟩
  have kb0_12 := cell_keep hb12 kb0_11
  have kx0_12 := cell_keep hb12 kx0_11
  have Os0_12 := Lib.hid (Os0_11.out.keep hb12)
  have Ox0_12 := Lib.hid (Ox0_11.out.keep hb12)
  have Og0_12 := Lib.hid (Og0_11.out.keep hb12)
  have Oq0_12 : Hid (OwnGridU 2 36 w12 (w11.heap.size) w12.heap.size (.slice aq0 nq0 cq0) L0) := (hoq0.mono (by first | exact Nat.le_refl _ | simp)).under
  have hz12 : w11.heap.size ≤ w12.heap.size := hb12.size
  have HB12 : Hid (Below w.heap.size w w12) := HB11.out.trans (hb12.mono (by first | omega | (simp; omega)))
  clear kb0_11 kx0_11 Os0_11 Ox0_11 Og0_11 HB11 hb12
  go_wp2_with fail
  refine (implPartsOf_any _ _ _ Oq0_12.out.read (hT.keep HB12.out)).mono ?_
  rintro e w13 ⟨nh0, ah0, ch0, rfl, hoh0, hb13⟩
  have kb0_13 := cell_keep hb13 kb0_12
  have kx0_13 := cell_keep hb13 kx0_12
  have Os0_13 := Lib.hid (Os0_12.out.keep hb13)
  have Ox0_13 := Lib.hid (Ox0_12.out.keep hb13)
  have Og0_13 := Lib.hid (Og0_12.out.keep hb13)
  have Oq0_13 := Lib.hid (Oq0_12.out.keep hb13)
  have Oh0_13 : Hid (OwnGridU 2 36 w13 (w12.heap.size) w13.heap.size (.slice ah0 nh0 ch0) E0) := (by have hq := hoh0; rw [← HEQ0.out] at hq; exact (hq.mono (by first | exact Nat.le_refl _ | simp)).under)
  have hz13 : w12.heap.size ≤ w13.heap.size := hb13.size
  have HB13 : Hid (Below w.heap.size w w13) := HB12.out.trans (hb13.mono (by first | omega | (simp; omega)))
  clear kb0_12 kx0_12 Os0_12 Ox0_12 Og0_12 Oq0_12 HB12 hb13
  go_wp2_with fail
  refine (eqInt64SS_b _ _ _ _ _ Oh0_13.out.read Os0_13.out.read).mono ?_
  rintro e w14 ⟨rfl, hb14⟩
  rw [decide_eq_true rfl]
  have kb0_14 := cell_keep hb14 kb0_13
  have kx0_14 := cell_keep hb14 kx0_13
  have Os0_14 := Lib.hid (Os0_13.out.keep hb14)
  have Ox0_14 := Lib.hid (Ox0_13.out.keep hb14)
  have Og0_14 := Lib.hid (Og0_13.out.keep hb14)
  have Oh0_14 := Lib.hid (Oh0_13.out.keep hb14)
  have hz14 : w13.heap.size ≤ w14.heap.size := hb14.size
  have HB14 : Hid (Below w.heap.size w w14) := HB13.out.trans (hb14.mono (by first | omega | (simp; omega)))
  clear kb0_13 kx0_13 Os0_13 Ox0_13 Og0_13 Oh0_13 HB13 hb14
  go_wp2_with fail
  refine (heldInt64SS_b _ E0 _ _ Og0_14.out.read (by omega) (by omega) hsr0).mono ?_
  rintro e w15 ⟨rfl, hb15⟩
  have kb0_15 := cell_keep hb15 kb0_14
  have kx0_15 := cell_keep hb15 kx0_14
  have Os0_15 := Lib.hid (Os0_14.out.keep hb15)
  have Ox0_15 := Lib.hid (Ox0_14.out.keep hb15)
  have Og0_15 := Lib.hid (Og0_14.out.keep hb15)
  have Oh0_15 := Lib.hid (Oh0_14.out.keep hb15)
  have hz15 : w14.heap.size ≤ w15.heap.size := hb15.size
  have HB15 : Hid (Below w.heap.size w w15) := HB14.out.trans (hb15.mono (by first | omega | (simp; omega)))
  clear kb0_14 kx0_14 Os0_14 Ox0_14 Og0_14 Oh0_14 HB14 hb15
  go_wp2
  go_ret
  exact ⟨rfl, HB15.out⟩

end Go.Proofs.YtjbfoiolcpigfaaDoor

/- From what a row's form reads as data to our words: a slice of int64, a slice of such slices, a graph. -/
namespace Go.Proofs.YtjbfoiolcpigfaaDoor
open Go.ChangeShapes Go.WideShapes Go.ChangeAt Go.RowKit Go.Deep

theorem own : ownKnob Tryd.prog.godebug = none := by kernel_rfl
theorem laidOut : laidOutB Tryd.prog = true := by kernel_rfl

theorem i64_wf {n : Int} (h : (Lit.int .i64 n).wf = true) : I64 n := by
  have := bounds_i64 h
  unfold I64
  omega

section
variable {H : Type} {enc : TypeId × Value → H} {P : Program} {w : World} {base : Nat} {held : Bool}

theorem addr_none {a : Addr} {i : Nat} {v : Value} (h : w.cell? (a.add i) = some v) (hp : i = 0) : a.spot = none := by
  subst hp
  simpa [Addr.add] using World.cell?_spot h

theorem addr_form {a : Addr} (h : a.spot = none) (i : Nat) : a.add i = ⟨a.block, a.off + i, none⟩ := by
  obtain ⟨b, o, s⟩ := a
  simp at h
  subst h
  unfold Addr.add
  split
  · rename_i e; subst e; rfl
  · rfl

theorem rowAt_of {A : Option Addr} {n c : Nat} {zs : List Int} (hlen : zs.length = n) (hm : n ≤ maxLen) (hc : n ≤ c) (hcm : c ≤ maxLen) (hi : ∀ z ∈ zs, I64 z) (h0 : A = none → c = 0) (hcell : ∀ a, A = some a → ∀ i, i < n → w.cell? (a.add i) = some (.int .i64 (nth zs i))) : RowAt w (.slice A n c) zs := by
  refine ⟨hi, by omega, ?_⟩
  by_cases hz : n = 0
  · subst hz
    exact Or.inl ⟨List.length_eq_zero_iff.1 hlen, A, c, rfl, h0⟩
  · cases A with
    | none => exact absurd (h0 rfl) (by omega)
    | some a =>
      have hs := addr_none (hcell a rfl 0 (by omega)) rfl
      refine Or.inr ⟨a.block, a.off, c, ?_, by omega, hcm, fun i hi' => ?_⟩
      · obtain ⟨b, o, s⟩ := a
        simp at hs
        subst hs
        rw [hlen]
      · rw [← addr_form hs]
        exact hcell a rfl i (by omega)

theorem row_of_trod {t e : TypeId} {fuel : Nat} {v : Value} {x : DataW H × List MemPlace} (ht : P.underlying t = some (.slice e)) (he : P.underlying e = some (.int .i64)) (ce : P.cellsOf e = 1)
    (h : DataW.trod enc P w base (fun _ => true) held fuel t [v] = some x) : ∃ xs, RowAt w v xs := by
  rcases open_ints ht he ce h with ⟨hcs, _⟩ | ⟨a, l, c, zs, hcs, _, hl, hm, hz, _, hcell, hwz⟩
  · simp at hcs
    subst hcs
    exact ⟨[], by simp, by simp, Or.inl ⟨rfl, none, 0, rfl, fun _ => rfl⟩⟩
  · simp at hcs
    subst hcs
    simp only [if_true] at hz
    refine ⟨zs.take l, rowAt_of (by simp; omega) (by omega) hl hm (fun z hzz => i64_wf (hwz z (List.mem_of_mem_take hzz))) (by simp) (fun a' e i hi => ?_)⟩
    cases e
    rw [hcell i (by omega)]
    simp [nth, hi]

theorem grid_of_trod {t e q : TypeId} {fuel : Nat} {v : Value} {x : DataW H × List MemPlace} (ht : P.underlying t = some (.slice e)) (he : P.underlying e = some (.slice q)) (hq : P.underlying q = some (.int .i64)) (ce : P.cellsOf e = 1) (cq : P.cellsOf q = 1)
    (h : DataW.trod enc P w base (fun _ => true) held fuel t [v] = some x) : ∃ L, GridAt w v L := by
  rcases open_int_rows ht he hq ce cq h with ⟨hcs, _⟩ | ⟨a, len, cap, A, Ln, C, Z, hcs, _, hl, hm, _, hr⟩
  · simp at hcs
    subst hcs
    exact ⟨[], by simp, Or.inl ⟨rfl, none, 0, rfl, fun _ => rfl⟩⟩
  · simp at hcs
    subst hcs
    refine ⟨(List.range len).map (fun r => (Z r).take (Ln r)), by simp; omega, ?_⟩
    by_cases h0 : len = 0
    · subst h0
      exact Or.inl ⟨by simp, _, cap, rfl, fun h => by cases h⟩
    · have hs := addr_none (hr 0 (by omega)).1 rfl
      refine Or.inr ⟨a.block, a.off, cap, ?_, by simp; exact hl, hm, fun i hi => ?_⟩
      · obtain ⟨b, o, s⟩ := a
        simp at hs
        subst hs
        simp
      · have hi' : i < len := by simpa using hi
        obtain ⟨r1, r2, r3, r4, r5, r6, r7⟩ := hr i (by omega)
        refine ⟨.slice (A i) (Ln i) (C i), by rw [← addr_form hs]; exact r1, ?_⟩
        have e1 : nthR ((List.range len).map (fun r => (Z r).take (Ln r))) i = (Z i).take (Ln i) := by simp [nthR, hi']
        rw [e1]
        refine rowAt_of (by simp; omega) (by omega) r2 r3 (fun z hzz => i64_wf (r5 z (List.mem_of_mem_take hzz))) (fun e => r6 e) (fun a' e j hj => ?_)
        rw [(r7 a' e).2 j (by omega)]
        simp [nth, hj]

/-- A struct of one field of one cell, by value. -/
theorem open_agg1 {spare : Nat → Bool} {r : Reach} {b0 : Nat} {t : TypeId} {f0 : Field} {v : Value} {d : DataW H} {p : List MemPlace} (hs : P.underlying t = some (.struct #[f0])) (h0 : f0.offset = 0) (h1 : P.cellsOf f0.type = 1) (hC : P.cellsOf t = 1)
    (hv : Value.okWide P w r b0 t v) (h : DataW.Trod enc P w base spare held t v d p) :
    ∃ (v0 : Value) (y0 : DataW H × List MemPlace) (n : Nat), v = .agg #[v0] ∧ DataW.trod enc P w base spare held n f0.type [v0] = some y0 := by
  obtain ⟨cs, rfl, hsz⟩ := okWide_struct hs hv
  have h2 : cs.size = 1 := hsz.trans hC
  obtain ⟨c0, rfl⟩ : ∃ c, cs = #[c] := by
    obtain ⟨l⟩ := cs
    match l, h2 with
    | [c], _ => exact ⟨c, rfl⟩
  obtain ⟨fuel, hf⟩ := h
  obtain ⟨y0, n, _, _, h3⟩ := trod_struct1 hs hf
  exact ⟨c0, y0, n, rfl, by simpa [Value.cells, h0, h1] using h3⟩

end

theorem Tryd.cells24 : Tryd.prog.cellsOf 27 = 1 := by kernel_rfl
theorem Tryd.cells34 : Tryd.prog.cellsOf 36 = 1 := by kernel_rfl
theorem Tryd.cells2 : Tryd.prog.cellsOf 2 = 1 := by kernel_rfl
theorem Tryd.cells38 : Tryd.prog.cellsOf 55 = 1 := by kernel_rfl

set_option maxRecDepth 100000 in
/-- An argument of type laws.Graph, opened. -/
theorem open_graph {H : Type} {enc : TypeId × Value → H} {W : World} {b0 : Nat} {v : Value} {d : DataW H} {p : List MemPlace} (hv : Value.okWide Tryd.prog W .any b0 55 v) (h : DataW.Trod enc Tryd.prog W 0 (fun _ => true) true 55 v d p) :
    ∃ g L, v = .agg #[g] ∧ GridAt W g L := by
  obtain ⟨g, y0, n, rfl, h0⟩ := open_agg1 Tryd.underlying55 rfl Tryd.cells24 Tryd.cells38 hv h
  obtain ⟨L, hL⟩ := grid_of_trod Tryd.underlying27 Tryd.underlying36 Tryd.underlying2 Tryd.cells34 Tryd.cells2 h0
  exact ⟨g, L, rfl, hL⟩

set_option maxRecDepth 100000 in
/-- An argument of type []int64, opened. -/
theorem open_row {H : Type} {enc : TypeId × Value → H} {W : World} {b0 : Nat} {v : Value} {d : DataW H} {p : List MemPlace} (hv : Value.okWide Tryd.prog W .any b0 36 v) (h : DataW.Trod enc Tryd.prog W 0 (fun _ => true) true 36 v d p) :
    ∃ L, RowAt W v L := by
  obtain ⟨a0, len, cap, rfl⟩ := okWide_slice Tryd.underlying36 hv
  obtain ⟨fuel, hf⟩ := h
  obtain ⟨L, hL⟩ := row_of_trod Tryd.underlying36 Tryd.underlying2 Tryd.cells2 hf
  exact ⟨L, hL⟩

set_option maxRecDepth 100000 in
/-- An argument of type [][]int64, opened. -/
theorem open_grid {H : Type} {enc : TypeId × Value → H} {W : World} {b0 : Nat} {v : Value} {d : DataW H} {p : List MemPlace} (hv : Value.okWide Tryd.prog W .any b0 27 v) (h : DataW.Trod enc Tryd.prog W 0 (fun _ => true) true 27 v d p) :
    ∃ L, GridAt W v L := by
  obtain ⟨a0, len, cap, rfl⟩ := okWide_slice Tryd.underlying27 hv
  obtain ⟨fuel, hf⟩ := h
  obtain ⟨L, hL⟩ := grid_of_trod Tryd.underlying27 Tryd.underlying36 Tryd.underlying2 Tryd.cells34 Tryd.cells2 hf
  exact ⟨L, hL⟩

end Go.Proofs.YtjbfoiolcpigfaaDoor

/- What the row's condition on the library's table gives; the witness. -/
namespace Go.Proofs.YtjbfoiolcpigfaaDoor
open Go.ChangeShapes Go.WideShapes Go.ChangeAt Go.RowKit

/-- The list of the rows. -/
abbrev laidL : List (String × DataW Unit) := [("math/bits.deBruijn32tab", Rows.laid_math_bits_deBruijn32tab)]
theorem gTab : Tryd.prog.globalNamed "math/bits.deBruijn32tab" = some 0 := by kernel_rfl
theorem gTabT : (Tryd.prog.globals[0]?).map (·.type) = some 133 := by kernel_rfl
theorem tabA : Tryd.prog.underlying 133 = some (.array 32 5) := by kernel_rfl
theorem tabE : Tryd.prog.underlying 5 = some (.int .u8) := by kernel_rfl
theorem tabC : Tryd.prog.cellsOf 5 = 1 := by kernel_rfl
theorem tabN : Tryd.prog.cellsOf 133 = 32 := by kernel_rfl

theorem door_met (os : Os) (args : Array Value) : laidMetH Tryd.prog laidL ((World.doorLaid Tryd.prog 400 os).forCall (fun _ _ => 0) ⟨#[], args, []⟩).memory :=
  laidMetH_of_parts3 (fuel := 8) (laidMet_of_run' 8 (by kernel_rfl) (by kernel_rfl)) (by kernel_rfl) (by kernel_rfl)

theorem tab_of_laid {W : World} (h : laidMetH Tryd.prog laidL W) : TabAt W := by
  rw [MakeChecks.laidMetH_plain _ _ _ (by kernel_rfl)] at h
  have h2 : laidMet Tryd.prog [("math/bits.deBruijn32tab", Lib.tabData .u8 (Lib.deBruijn32tab.map (fun z : Nat => (z : Int))))] W := h
  have hT := Lib.tabIs_of_head gTab gTabT tabA tabE tabC tabN h2
  intro i hi
  have := hT.cell gTab i (by rw [List.length_map]; exact hi)
  rw [this]
  congr 2
  simp [List.getD_eq_getElem?_getD, hi]

end Go.Proofs.YtjbfoiolcpigfaaDoor
