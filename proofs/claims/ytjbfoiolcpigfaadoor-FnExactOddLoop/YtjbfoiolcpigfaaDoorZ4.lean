/- Walks: PartsOf, of the program. -/
import Derived.Test.YtjbfoiolcpigfaaDoorQZ1
import Derived.Test.YtjbfoiolcpigfaaDoorZ3
import Derived.Test.YtjbfoiolcpigfaaDoorQY1
import Derived.RangeFuncFrom

namespace Go.Proofs.YtjbfoiolcpigfaaDoor
open Go.RowKit Go.Shelf
attribute [local go_sem] Oper.semAt_some

theorem OwnRow.kept {T : TypeId} {w w' : World} {B : Nat} {v : Value} {xs : List Int} (h : OwnRow T w B v xs) (hk : ∀ (k : Nat) (cs : Array Value) (fr : Nat × Nat), w.heap[k]? = some (Obj.cells cs T fr) → w'.heap[k]? = some (Obj.cells cs T fr)) : OwnRow T w' B v xs := by
  obtain ⟨h1, h2, h3⟩ := h
  refine ⟨h1, h2, ?_⟩
  rcases h3 with h3 | ⟨g, cap, cur, e, hg, hh, r⟩
  · exact Or.inl h3
  · exact Or.inr ⟨g, cap, cur, e, hg, hk _ _ _ hh, r⟩
theorem OwnGrid.kept {T T1 : TypeId} {w w' : World} {B : Nat} {v : Value} {L : List (List Int)} (h : OwnGrid T T1 w B v L) (hk : ∀ (k : Nat) (cs : Array Value) (U : TypeId) (fr : Nat × Nat), U = T ∨ U = T1 → w.heap[k]? = some (Obj.cells cs U fr) → w'.heap[k]? = some (Obj.cells cs U fr)) : OwnGrid T T1 w' B v L := by
  obtain ⟨R, h2, h3, h4, h5⟩ := h
  refine ⟨R, h2, ?_, fun i hi => (h4 i hi).kept (fun k cs fr h => hk k cs T fr (.inl rfl) h), h5⟩
  rcases h3 with h3 | ⟨g, cap, cur, e, hg, hh, r⟩
  · exact Or.inl h3
  · exact Or.inr ⟨g, cap, cur, e, hg, hk _ _ _ _ (.inr rfl) hh, r⟩

/-- The program's list of parts, half done. -/
def PI (w : World) (bx B bn : Nat) (L : List (List Int)) (W : World) : Prop :=
  W.heap[bx + 1]? = some (.cells #[.pointer (some ⟨bn, 0, none⟩)] 113 (0, 0)) ∧ (∃ val, W.heap[bx]? = some (.cells #[val] 27 (0, 0)) ∧ OwnGrid 2 36 W B val L) ∧ Below w.heap.size w W
theorem PI.own {β : Type} (w : World) (bx B bn C : Nat) (f : β → List (List Int)) (hC : w.heap.size ≤ C) : OwnFrom C (fun s W => PI w bx B bn (f s) W) := by
  rintro s W W' row ⟨hpt, ⟨val, hb, hg⟩, hbel⟩ hgr hr
  have hk : ∀ (k : Nat) (cs : Array Value) (U : TypeId) (fr : Nat × Nat), W.heap[k]? = some (Obj.cells cs U fr) → W'.heap[k]? = some (Obj.cells cs U fr) := fun k cs U fr h => by
    refine (hgr.block k (Array.getElem?_eq_some_iff.1 h).1 ?_).trans h
    intro e
    obtain ⟨_, o, ho, hc⟩ := hr k e.symm
    rw [h] at ho; cases ho; simp [Obj.isCells] at hc
  refine ⟨hk _ _ _ _ hpt, ⟨val, hk _ _ _ _ hb, hg.kept (fun k cs U fr _ h => hk k cs U fr h)⟩, ?_⟩
  exact hbel.trans ⟨hgr.os, hgr.tape, hgr.output, hgr.size, fun k hk' => hgr.block k (by have := hbel.size; omega) (fun e => by have := (hr k e.symm).1; omega)⟩

section
variable {F : Fence} {n : Nat} {P : Program} {ops : Array Oper} {Q : Exit → Act → World → Prop}
theorem anyIn_one {fuel : Nat} {listed : Array Bool} {a : Act} {w : World} (i : Nat) (hr : Region.ready .any ops listed = [i]) (h : wpOpIn F n P ops Q i (wpAnyIn F n P .any ops Q fuel (listed.setIfInBounds i true)) a w) : wpAnyIn F n P .any ops Q (fuel + 1) listed a w := by
  refine ⟨fun h0 => (by rw [hr] at h0; cases h0), fun k hk => ?_⟩
  rw [hr] at hk
  simp at hk
  subst hk
  exact h
theorem anyIn_two {fuel : Nat} {listed : Array Bool} {a : Act} {w : World} (i j : Nat) (hr : Region.ready .any ops listed = [i, j]) (h : wpOpIn F n P ops Q i (wpAnyIn F n P .any ops Q fuel (listed.setIfInBounds i true)) a w)
    (h' : wpOpIn F n P ops Q j (wpAnyIn F n P .any ops Q fuel (listed.setIfInBounds j true)) a w) : wpAnyIn F n P .any ops Q (fuel + 1) listed a w := by
  refine ⟨fun h0 => (by rw [hr] at h0; cases h0), fun k hk => ?_⟩
  rw [hr] at hk
  simp at hk
  rcases hk with rfl | rfl
  · exact h
  · exact h'
theorem opIn_at {i : Nat} {o : Oper} {K : Act → World → Prop} {a : Act} {w : World} (ho : ops[i]? = some o) (hg : o.guard = none) (h : o.wpIn F n P a w K Q) : wpOpIn F n P ops Q i K a w := by
  unfold wpOpIn
  rw [ho]
  have hw : Region.wanted o (yielded ops a.tmps) = true := by simp [Region.wanted, hg]
  simp only [hw, if_true]
  exact h
theorem wpIn_append_own (w : World) {o : Oper} {a : Act} {K : Act → World → Prop} (s x : Operand) (t : TypeId) (hop : o.op = Op.call { callee := Callee.builtin Builtin.append, args := #[s, x], argTypes := #[t, t] })
    (base : Nat) (e : TypeId) (i : TypeInfo) (z : Value) (size bytes : Nat) (h1 : P.underlying t = some (.slice e)) (h2 : P.info? e = some i) (h3 : i.zero = some z) (h4 : i.size = size) (h5 : i.bytes = bytes) (h6 : z.cells.size = size) (h7 : 0 < size)
    (v : Value) (k : Nat) (xs : List Value) (hs : a.eval s = v) (hown : w.ownsRow base e size v k xs) (ad : Addr) (m c : Nat) (news : List Value) (hx : a.eval x = .slice (some ad) m c) (hn : news.length = m * size)
    (hc : ∀ j u, news[j]? = some u → w.cell? (ad.add j) = some u) (h1c : ∀ u ∈ news, u.oneCell' = true) (b1 : k + m ≤ maxLen) (b2 : (k + m) * bytes ≤ 140737488355328) (b3 : base ≤ w.heap.size)
    (hK : ∀ v' w', w'.ownsRow base e size v' (k + m) (xs ++ news) → w.grownBy w' v.ownBlock → K (a.put o.dst v') w') : o.wpIn F n P a w K Q := by
  obtain ⟨v', w', hrun, r1, r2, r3⟩ := run_append_own (P := P) w base t o.type e i z size bytes h1 h2 h3 h4 h5 h6 h7 v k xs hown ad m c news hn hc h1c b1 b2 b3
  unfold Oper.wpIn
  refine ⟨?_, ?_⟩
  · simp [Oper.about, hop, resolve, Target.leads, Sem.run_pure]
  · rw [Oper.semAt_plain F _ _ (by rw [hop]; intro c hc'; cases hc')]
    simp [execOp, hop, resolve, invoke, builtin, hs, hx, hrun, Result.andThen]
    exact hK v' w' r1 r2
end

set_option maxHeartbeats 4000000 in
set_option maxRecDepth 100000 in
theorem implPartsOf_any (v : Value) (L : List (List Int)) (w : World) (h : GridAt w v L) (hT : TabAt w) : Calls Tryd.prog 26 #[.agg #[v]] w (GaveGrid w (partsL L)) := by
  obtain ⟨j0, hj, hy0, hy1, hy2⟩ := info_parts Tryd.infoR
  obtain ⟨a0, c0, rfl⟩ := h.slice
  have ha : Below w.heap.size w (w.alloc (.cells #[.slice a0 L.length c0] 29)) := (Below.refl _ _).alloc (Nat.le_refl _) _
  have hk := h.keep ha
  have HA := Lib.hid ha
  clear ha
  refine calls_marks Tryd.func26 rfl ?_
  simp only [Tryd.ntmps26, List.size_toArray, List.length_cons, List.length_nil, Nat.reduceAdd, Nat.reduceSub, Array.replicate_succ, Array.replicate_zero, List.push_toArray, List.append_toArray, List.nil_append, List.cons_append]
  go_wp2_with fail
  refine (netOf_any _ _ _ hk).mono ?_
  rintro e w1 ⟨rfl, hb1⟩
  have HB1 : Hid (Below w.heap.size w w1) := HA.out.trans (hb1.mono (by simp))
  have hz : w.heap.size ≤ w1.heap.size := HB1.out.size
  have hnb := netBlk_new w1 0 (fun _ => 0)
  clear hb1 hk h HA
  by_cases hG : GraphP L
  · have hzz := hG.1
    have HLT : Hid (∀ i, rowM L i < 65536) := fun i => rowM_lt (by omega) (fun v hv => (hG.2.1 v hv).1) i
    have HNE := Lib.hid (nearM_eq hG)
    have HSY : Hid (∀ a b, nearM (rowM L) a b = nearM (rowM L) b a) := by rw [HNE.out]; exact nearB_symm hG
    have HE : Hid (partsL L = (headsTo (nearM (rowM L)) L.length L.length).map (fun v => listM (compN (nearM (rowM L)) L.length v))) := by
      show _ = _; unfold partsL; rw [if_pos hG, HNE.out, ← headsTo_map, List.map_map]; rfl
    rw [decide_eq_true hG, netArr_yes hG]
    clear hG
    go_wp2_with (first | (refine wpList_store_net rfl 74 (.tmp 3) (.tmp 10) rfl w1.heap.size L.length (rowM L) rfl rfl Tryd.sizeNet 0 (fun _ => 0) hnb ?_; intro w3 hp; have HNet := Lib.hid hp.net.at; have HB3 : Hid (Below w.heap.size w w3) := (HB1.out.alloc hz _).trans (hp.below.mono hz); clear hp) | (go_at_call 78; refine (parts_any _ _).mono ?_; rintro e w' ⟨rfl, rfl⟩))
    have hz3 : w.heap.size ≤ w3.heap.size := HB3.out.size
    obtain ⟨w5, hw5⟩ : ∃ w5, ((w3.alloc (.cells #[] 36)).alloc (.cells #[.slice (some ⟨w3.heap.size, 0, none⟩) 0 0] 27)).alloc (.cells #[.pointer (some ⟨w1.heap.size, 0, none⟩)] 113) = w5 := ⟨_, rfl⟩
    have hb5 : Below w3.heap.size w3 w5 := by rw [← hw5]; exact (((Below.refl _ _).alloc (Nat.le_refl _) _).alloc (by simp) _).alloc (by simp; omega) _
    have hs5 : w5.heap.size = w3.heap.size + 3 := by rw [← hw5]; simp
    have hbx5 : w5.heap[w3.heap.size + 1]? = some (.cells #[.slice (some ⟨w3.heap.size, 0, none⟩) 0 0] 27 (0, 0)) := by
      rw [← hw5]
      have h1 := World.alloc_heap_new (w3.alloc (.cells #[] 36)) (.cells #[.slice (some ⟨w3.heap.size, 0, none⟩) 0 0] 27)
      rw [World.size_alloc] at h1
      exact (Below.heap_alloc _ _ _ (by simp)).trans h1
    have hpt5 : w5.heap[w3.heap.size + 1 + 1]? = some (.cells #[.pointer (some ⟨w1.heap.size, 0, none⟩)] 113 (0, 0)) := by
      rw [← hw5]
      have h1 := World.alloc_heap_new ((w3.alloc (.cells #[] 36)).alloc (.cells #[.slice (some ⟨w3.heap.size, 0, none⟩) 0 0] 27)) (.cells #[.pointer (some ⟨w1.heap.size, 0, none⟩)] 113)
      simpa using h1
    have hog5 : OwnGrid 2 36 w5 w3.heap.size (.slice (some ⟨w3.heap.size, 0, none⟩) 0 0) [] := by
      have h1 := own_none (T := 2) (T1 := 36) w3 w3.heap.size (Nat.le_refl _)
      refine h1.keep ?_
      rw [← hw5]
      exact ((Below.refl _ _).alloc (Nat.le_refl _) _).alloc (by simp) _
    have HPI : Hid (PartIn w5 (w3.heap.size + 2) w1.heap.size L.length (rowM L)) := by
      refine ⟨?_, HNet.out.keep hb5, (hT.keep HB3.out).keep hb5⟩
      subst hw5; go_simp
    have HSQ := Lib.hid (parts1_seq 8 (w3.heap.size + 2) w1.heap.size L.length (rowM L) w5 HLT.out hzz.2 HSY.out HPI.out)
    have hbn : w1.heap.size < w3.heap.size := block_lt_of_cell HNet.out.1
    have H0 : Hid (PI w (w3.heap.size + 1) w3.heap.size w1.heap.size [] w5) := ⟨hpt5, ⟨_, hbx5, hog5⟩, HB3.out.trans (hb5.mono hz3)⟩
    simp only [Nat.add_assoc, Nat.reduceAdd] at *
    rw [hw5]
    clear hw5 hb5 hbx5 hpt5 hog5 HPI HNet HB3 HB1 hnb
    refine (wpIn_wide (n := 9)).1 ?_
    refine wpIn_rangeFunc_ownF rfl (by omega) (gf := 123) (lb := #[.pointer (some ⟨w3.heap.size + 2, 0, none⟩)]) rfl trivial (enters_of Tryd.func123 (by kernel_rfl) rfl)
      HSQ.out (fun h k => h.trans k) (fun W l o o' hl ho h1 h2 => KeepsBut.putObj W l o' ⟨by omega, by omega, by omega⟩) (Below.refl _ _) (fun _ => rfl)
      (fun pre W => PI w (w3.heap.size + 1) w3.heap.size w1.heap.size (pre.map (fun v => listM (compN (nearM (rowM L)) L.length v))) W)
      (fun _ _ _ => False)
      (PI.own w _ _ _ _ _ (by omega))
      (fun _ _ _ _ _ h _ _ => h)
      H0.out
      ?a1 ?assign ?body ?done ?stop
    case assign =>
      intro l x W K hK
      simp only [encM]
      gi_wp2
      exact hK
    case body =>
      rintro l pre x W ⟨hpt, ⟨val, hbx, hog⟩, hb⟩ hlen
      have HPT := Lib.hid hpt
      have hbc : W.cell? ⟨w3.heap.size + 1, 0, none⟩ = some val := by rw [cell_of_row W _ 0 _ _ _ hbx]; rfl
      have hbf : W.frozen? ⟨w3.heap.size + 1, 0, none⟩ = false := frozen_of_row W _ 0 _ _ hbx
      have hcl := compN_lt (nearM (rowM L)) L.length x
      obtain ⟨R, hR, hRr, hRd⟩ := hog.owns
      have HR := Lib.hid hR
      have HRr := Lib.hid hRr
      have HRd := Lib.hid hRd
      have HBX := Lib.hid hbx
      have HB := Lib.hid hb
      clear hR hRr hRd hog hb
      have hmix : Tryd.prog.follows .mixedOrders = true := by kernel_rfl
      gi_wp2_with fail
      refine wpIn_region_any hmix ?_
      refine anyIn_two 0 1 (by kernel_rfl) ?o0 ?o1
      case' o1 =>
        refine opIn_at rfl rfl ?_
        simp [go_sem, Oper.wpIn, Oper.about, Oper.uponIn]
        refine anyIn_two 0 2 (by kernel_rfl) ?o2 ?o3
      case' o3 =>
        refine opIn_at rfl rfl ?_
        simp [go_sem, Oper.wpIn, Oper.about, Oper.uponIn]
        refine ⟨trivial, ?_⟩
        refine (CallsIn.inRound l (callsIn_wide.2 (list_any _ _ hcl))).mono ?_
        rintro e w7 ⟨n7, a7, c7, rfl, ho7, hb7⟩
        have hbc7 := cell_keep hb7 (cell_keep (Below.refl _ _).drew hbc)
        refine anyIn_two 0 3 (by kernel_rfl) ?o4 ?o5
      case' o0 =>
        refine opIn_at rfl rfl ?_
        simp [go_sem, Oper.wpIn, Oper.about, Oper.uponIn, hbc]
        refine anyIn_one 1 (by kernel_rfl) ?_
        refine opIn_at rfl rfl ?_
        simp [go_sem, Oper.wpIn, Oper.about, Oper.uponIn]
        refine anyIn_one 2 (by kernel_rfl) ?_
        refine opIn_at rfl rfl ?_
        simp [go_sem, Oper.wpIn, Oper.about, Oper.uponIn]
        refine ⟨trivial, ?_⟩
        refine (CallsIn.inRound l (callsIn_wide.2 (list_any _ _ hcl))).mono ?_
        rintro e w7 ⟨n7, a7, c7, rfl, ho7, hb7⟩
        have hbc7 := cell_keep hb7 (cell_keep (Below.refl _ _).drew hbc)
        refine anyIn_one 3 (by kernel_rfl) ?_
        refine opIn_at rfl rfl ?_
        simp [go_sem, Oper.wpIn, Oper.about, Oper.uponIn]
      case' o2 =>
        refine opIn_at rfl rfl ?_
        simp [go_sem, Oper.wpIn, Oper.about, Oper.uponIn, hbc]
        refine anyIn_one 2 (by kernel_rfl) ?_
        refine opIn_at rfl rfl ?_
        simp [go_sem, Oper.wpIn, Oper.about, Oper.uponIn]
        refine ⟨trivial, ?_⟩
        refine (CallsIn.inRound l (callsIn_wide.2 (list_any _ _ hcl))).mono ?_
        rintro e w7 ⟨n7, a7, c7, rfl, ho7, hb7⟩
        have hbc7 := cell_keep hb7 (cell_keep (Below.refl _ _).drew hbc)
        refine anyIn_one 3 (by kernel_rfl) ?_
        refine opIn_at rfl rfl ?_
        simp [go_sem, Oper.wpIn, Oper.about, Oper.uponIn]
      case' o4 =>
        refine opIn_at rfl rfl ?_
        simp [go_sem, Oper.wpIn, Oper.about, Oper.uponIn, hbc7]
        refine anyIn_one 3 (by kernel_rfl) ?_
        refine opIn_at rfl rfl ?_
        simp [go_sem, Oper.wpIn, Oper.about, Oper.uponIn]
      case' o5 =>
        refine opIn_at rfl rfl ?_
        simp [go_sem, Oper.wpIn, Oper.about, Oper.uponIn]
        have hbc8 := cell_keep (w' := w7.alloc (.cells #[.slice a7 n7 c7] 36)) ((Below.refl _ _).alloc (Nat.le_refl _) _) hbc7
        refine anyIn_one 0 (by kernel_rfl) ?_
        refine opIn_at rfl rfl ?_
        simp [go_sem, Oper.wpIn, Oper.about, Oper.uponIn, hbc8]
      all_goals (
        have hb7W : Below W.heap.size W w7 := (Below.refl _ _).drew.trans hb7
        have hbA : Below w7.heap.size w7 (w7.alloc (.cells #[.slice a7 n7 c7] 36)) := (Below.refl _ _).alloc (Nat.le_refl _) _
        have hbWA : Below W.heap.size W (w7.alloc (.cells #[.slice a7 n7 c7] 36)) := hb7W.trans (hbA.mono hb7W.size)
        have hzW : w3.heap.size ≤ W.heap.size := by have := (Array.getElem?_eq_some_iff.1 HBX.out).1; omega
        have hzA := hbWA.size
        refine anyIn_one 4 (by kernel_rfl) ?_
        refine opIn_at rfl rfl ?_
        refine wpIn_append_own _ (.tmp 17) (.tmp 20) 27 rfl w3.heap.size 36 j0 (.slice none 0 0) 1 24 Tryd.underlying27 hj hy0 hy1 hy2 rfl (by decide) val _ _ rfl (ownsRow_keep HR.out hbWA) ⟨w7.heap.size, 0, none⟩ 1 1 [.slice a7 n7 c7] rfl rfl ?_ ?_ ?_ ?_ ?_ ?_
        · intro j u hj
          match j, hj with
          | 0, hj => simp at hj; subst hj; simp [Addr.add]
        · intro u hu; simp at hu; subst hu; rfl
        · simp; unfold maxLen; omega
        · simp; omega
        · omega
        intro v8 w8 hown8 hgrow8
        have hog8 := OwnGrid.snoc (T := 2) (T1 := 36) (by decide) hbWA hzW (ho7.keep hbA) rfl (by simp; unfold maxLen; omega) R HR.out HRr.out HRd.out hown8 hgrow8
        have hbox8 : w8.heap[w3.heap.size + 1]? = some (.cells #[val] 27 (0, 0)) := by
          rw [hgrow8.block _ (by have := (Array.getElem?_eq_some_iff.1 HBX.out).1; omega) ?_]
          · exact (hbWA.block _ (Array.getElem?_eq_some_iff.1 HBX.out).1).trans HBX.out
          · intro e
            rcases HR.out.2 with ⟨e3, _⟩ | ⟨g', cap', cur', e3, _, hh', _⟩
            · rw [e3] at e; simp [Value.ownBlock] at e
            · rw [e3] at e
              simp [Value.ownBlock] at e
              subst e
              rw [HBX.out] at hh'
              simp at hh'
        obtain ⟨a8, c8, e8⟩ := hog8.grid.slice
        subst e8
        have hbc8' : w8.cell? ⟨w3.heap.size + 1, 0, none⟩ = some val := by rw [cell_of_row w8 _ 0 _ _ _ hbox8]; rfl
        have hbf8 : w8.frozen? ⟨w3.heap.size + 1, 0, none⟩ = false := frozen_of_row w8 _ 0 _ _ hbox8
        have hne : ∀ k cs U fr, W.heap[k]? = some (Obj.cells cs U fr) → U ≠ 36 → some k ≠ val.ownBlock := fun k cs U fr hk hU e => by
          rcases HR.out.2 with ⟨e3, _⟩ | ⟨g', cap', cur', e3, _, hh', _⟩
          · rw [e3] at e; simp [Value.ownBlock] at e
          · rw [e3] at e
            simp [Value.ownBlock] at e
            subst e
            rw [hk] at hh'
            simp at hh'
            exact hU hh'.2.1
        have hge : ∀ k, val.ownBlock = some k → w3.heap.size ≤ k := fun k hk => (HR.out.lt k hk).1
        have HKO : Hid (KeepsOthers W (w8.setCell ⟨w3.heap.size + 1, 0, none⟩ (.slice a8 (pre.map (fun v => listM (compN (nearM (rowM L)) L.length v)) ++ [listM (compN (nearM (rowM L)) L.length x)]).length c8))) := by
          refine KeepsOthers.trans (KeepsOthers.trans (?_ : KeepsOthers W (w7.alloc (.cells #[.slice a7 n7 c7] 36))) (KeepsOthers.of_grownBy hgrow8 ?_)) (KeepsOthers.setCell _ _ _)
          · exact ⟨hbWA.size, fun k o hk _ => (hbWA.block k (Array.getElem?_eq_some_iff.1 hk).1).trans hk⟩
          · intro j o hj ho
            rcases (ownsRow_keep HR.out hbWA).2 with ⟨e3, _⟩ | ⟨g', cap', cur', e3, _, hh', _⟩
            · rw [e3] at hj; simp [Value.ownBlock] at hj
            · rw [e3] at hj
              simp [Value.ownBlock] at hj
              subst hj
              rw [hh'] at ho; cases ho; rfl
        have HKB : Hid (KeepsBut (fun k => k ≠ w3.heap.size + 2 ∧ k ≠ w1.heap.size ∧ k ≠ 0) W (w8.setCell ⟨w3.heap.size + 1, 0, none⟩ (.slice a8 (pre.map (fun v => listM (compN (nearM (rowM L)) L.length v)) ++ [listM (compN (nearM (rowM L)) L.length x)]).length c8))) := by
          refine (KeepsBut.trans (KeepsBut.below hbWA) ⟨hgrow8.size, fun k hk hn => hgrow8.block k hk ?_⟩).trans (KeepsBut.setCell _ _ _ ⟨by simp, by simp; omega, by simp⟩)
          intro e
          apply hn
          refine ⟨fun e2 => ?_, fun e2 => ?_, fun e2 => ?_⟩
          · subst e2; exact hne _ _ _ _ HPT.out (by decide) e
          · have := hge k e.symm; omega
          · have := hge k e.symm; omega
        have HPI : Hid (PI w (w3.heap.size + 1) w3.heap.size w1.heap.size ((pre ++ [x]).map (fun v => listM (compN (nearM (rowM L)) L.length v))) (w8.setCell ⟨w3.heap.size + 1, 0, none⟩ (.slice a8 (pre.map (fun v => listM (compN (nearM (rowM L)) L.length v)) ++ [listM (compN (nearM (rowM L)) L.length x)]).length c8))) := by
          refine ⟨?_, ⟨_, heap_setCell_same w8 _ 0 _ _ _ hbox8, ?_⟩, ?_⟩
          · rw [heap_setCell_other _ _ _ _ (by simp)]
            exact (hgrow8.block _ (by have := (Array.getElem?_eq_some_iff.1 HPT.out).1; omega) (hne _ _ _ _ HPT.out (by decide))).trans ((hbWA.block _ (Array.getElem?_eq_some_iff.1 HPT.out).1).trans HPT.out)
          · rw [List.map_append]
            refine hog8.kept (fun k cs U fr hU hk => ?_)
            rw [heap_setCell_other _ _ _ _ ?_]
            · exact hk
            · intro e
              simp at e
              subst e
              rw [hbox8] at hk
              simp at hk
              rcases hU with h | h <;> (rw [h] at hk; exact absurd hk.2.1 (by decide))
          · exact ((HB.out.trans (hbWA.mono HB.out.size)).grown hgrow8 (by have := HB.out.size; omega) (fun j hj => by have := hge j hj; omega)).setCell (p := ⟨w3.heap.size + 1, 0, none⟩) (by simp; omega) _
        clear hog8 hgrow8 hown8 hbox8 hne hge ho7 hb7 hb7W hbA hbWA
        refine anyIn_one 5 (by kernel_rfl) ?_
        refine opIn_at rfl rfl ?_
        simp [go_sem, Oper.wpIn, Oper.about, Oper.uponIn, hbc8', hbf8]
        refine ⟨by kernel_rfl, ?_⟩
        have hlen8 : (pre.map (fun v => listM (compN (nearM (rowM L)) L.length v)) ++ [listM (compN (nearM (rowM L)) L.length x)]).length = pre.length + 1 := by simp
        rw [hlen8] at HKO HKB HPI
        exact ⟨HKO.out, HKB.out, HPI.out⟩)
    case done =>
      rintro D ys W hD rfl ⟨hpt, ⟨val, hbx, hog⟩, hb⟩ hK
      obtain ⟨a8, c8, e8⟩ := hog.grid.slice
      subst e8
      have hbc : W.cell? ⟨w3.heap.size + 1, 0, none⟩ = some (.slice a8 ((headsTo (nearM (rowM L)) L.length L.length).map (fun v => listM (compN (nearM (rowM L)) L.length v))).length c8) := by rw [cell_of_row W _ 0 _ _ _ hbx]; rfl
      have HK := Lib.hid hK
      have hDW : D < W.heap.size := (Array.getElem?_eq_some_iff.1 hK).1
      have HP : Hid (GaveGrid w (partsL L) (.returned (.slice a8 ((headsTo (nearM (rowM L)) L.length L.length).map (fun v => listM (compN (nearM (rowM L)) L.length v))).length c8)) (W.putObj D (.deferred none))) := by
        rw [HE.out]
        refine ⟨_, _, _, rfl, (hog.mono hz3).kept (fun k cs U fr _ h => ?_), hb.trans (below_put W D _ (by omega) hDW)⟩
        rw [World.putObj_heap_other (fun e => ?_)]
        · exact h
        · subst e; rw [hK] at h; cases h
      clear hpt hbx hog hb hK
      go_wp2
      refine ⟨by simp, .inl ⟨_, _, rfl, run_takeDeferred HK.out, ?_⟩⟩
      exact ⟨_, results_tmp rfl _ _ _, by simpa using HP.out⟩
    case stop =>
      rintro D c pre W _ _ h _
      exact h.elim
  · have HE : Hid (partsL L = []) := by show _ = _; unfold partsL; rw [if_neg hG]
    rw [decide_eq_false hG, netArr_no hG]
    clear hG
    go_wp2_with (refine wpList_store_net rfl 74 (.tmp 3) (.tmp 10) rfl w1.heap.size 0 (fun _ => 0) rfl rfl Tryd.sizeNet 0 (fun _ => 0) hnb ?_; intro w3 hp; have HB3 : Hid (Below w.heap.size w w3) := (HB1.out.alloc hz _).trans (hp.below.mono hz); clear hp)
    exact ⟨_, results_tmp rfl _ _ _, _, _, _, rfl, by rw [HE.out]; exact ⟨fun _ => undef, by simp, .inl ⟨rfl, rfl⟩, fun i hi => absurd hi (by simp), fun i j k _ hj => absurd hj (by simp)⟩, HB3.out⟩

end Go.Proofs.YtjbfoiolcpigfaaDoor
