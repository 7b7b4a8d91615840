/- Walks: CliquesOf of the program. -/
import Derived.Test.YtmfolclpddoplaaCL7
import Derived.Test.YtmfolclpddoplaaX4
import Derived.RangeFuncFrom

namespace Go.Proofs.Ytmfolclpddoplaa
open Go.RowKit Go.Shelf
attribute [local go_sem] Oper.semAt_some

theorem cliques_any (bn : Nat) (w : World) :
    Calls Try.prog 78 #[.pointer (some ⟨bn, 0, none⟩)] w fun e w' =>
      e = .returned (.func (.func 118) #[] #[.pointer (some ⟨w.heap.size, 0, none⟩)]) ∧
      w' = w.alloc (.cells #[.pointer (some ⟨bn, 0, none⟩)] 102) := by
  have hmf : ∀ (fn : Fn) (first cap : Array Value) (w : World), (Instr.makeFunc fn first cap).run Try.prog w = .ok (.func fn first cap) w := fun _ _ _ _ => rfl
  go_enter Try.func78, Try.ntmps78
  go_wp2
  go_ret
  exact ⟨rfl, rfl⟩

theorem BoxP.kt {w w' : World} {b : Nat} {v : Value} (h : BoxT 102 w b v) (hk : KeepsT w w') : BoxT 102 w' b v := hk _ _ _ _ h (by decide) (by decide)
theorem mkB_all {n : Nat} (hn : n ≤ 16) : mkB (allL n) = 2 ^ n - 1 := by
  apply Nat.eq_of_testBit_eq
  intro j
  unfold mkB
  rw [pm_bit, Nat.testBit_two_pow_sub_one, Bool.eq_iff_iff, Bool.and_eq_true, decide_eq_true_iff, decide_eq_true_iff, hasB_mem, allL_mem]
  constructor
  · rintro ⟨_, i, hi, e⟩; omega
  · intro h; exact ⟨by omega, j, h, rfl⟩
theorem allL_set (n : Nat) : SetP (allL n) n := SetP.mk (allL_pair n) (fun x hx => by obtain ⟨i, hi, rfl⟩ := (allL_mem _ _).1 hx; omega)

set_option maxHeartbeats 4000000 in
set_option maxRecDepth 100000 in
theorem cliques1_seq (m pt bn n : Nat) (A : Nat → Nat → Bool) (w : World) (hA : RelP n A) (hn : 1 ≤ n ∧ n ≤ 16) (kt : BoxT 102 w pt (.pointer (some ⟨bn, 0, none⟩))) (hnet : NetBlk 65 w bn n (fun i => pm (A i))) :
    SeqTy Fence.wide m Try.prog 118 #[.pointer (some ⟨pt, 0, none⟩)] encC (cqF A 17 [] (allL n) []) w := by
  intro l J W hW hJ hY h0
  have HN := Lib.hid (hnet.keep hW)
  have KS : Hid (∀ W', Below W.heap.size W W' → W'.cell? ⟨pt, 0, none⟩ = some (.pointer (some ⟨bn, 0, none⟩)) ∧ W'.cell? ⟨bn, 0, none⟩ = some (.int .i64 (n : Int))) := fun W' hb => ⟨((kt.keep hW).keep hb).box.1, ((hnet.keep hW).keep hb).at.1⟩
  have KT : Hid (∀ W' W'', Below W.heap.size W W' → KeepsT W' W'' → W''.cell? ⟨pt, 0, none⟩ = some (.pointer (some ⟨bn, 0, none⟩)) ∧ W''.cell? ⟨bn, 0, none⟩ = some (.int .i64 (n : Int))) := fun W' W'' hb hk => ⟨(BoxP.kt ((kt.keep hW).keep hb) hk).box.1, ((((hnet.keep hW).keep hb)).kt hk).at.1⟩
  have HJB : Hid (∀ B, Below W.heap.size W B → J [] B) := fun B hb => hJ [] W B (w.heap.size + W.heap.size) h0 (by omega) (fun o ho => by have := (Array.getElem?_eq_some_iff.1 ho).1; omega) (IterC.below hb)
  have HIX : Hid (∀ W', Below W.heap.size W W' → Calls Try.prog 119 #[.pointer (some ⟨bn, 0, none⟩), .int .u32 0, .int .u32 ((2 ^ n - 1 : Nat) : Int), .int .u32 0, .func (.yield l) #[] #[]] W' (WidPost J (cqF A 17 [] (allL n) []) W')) := fun W' hb => by
    have h := widened_any m l bn n w.heap.size A (cqF A 17 [] (allL n) []) J hA hn hJ hY 17 [] (allL n) [] [] W' (Nat.le_trans hW.size hb.size) (by rw [allL_len]; omega) (fun x hx => absurd hx (by simp)) (allL_set n) (fun x hx => absurd hx (by simp)) (by rw [List.nil_append]; exact List.prefix_rfl) (HN.out.keep hb) (HJB.out _ hb)
    rw [mkB_nil, mkB_all hn.2, List.nil_append] at h
    exact h
  have ks := KS.out _ (Below.refl _ _)
  clear hW hJ hY h0 kt hnet
  refine callsIn_wide.2 ?_
  simp only [List.append_toArray, List.cons_append, List.nil_append]
  go_enter Try.func118, Try.ntmps118
  go_wp2_with fail
  go_region_held3 (fun wy => wy.cell? ⟨pt, 0, none⟩ = some (.pointer (some ⟨bn, 0, none⟩)) ∧ wy.cell? ⟨bn, 0, none⟩ = some (.int .i64 (n : Int))) (first | exact ks | with_reducible exact KS.out _ (Below.refl _ _).drew | exact ks6)
    (first
      | (go_at_call 98; refine (wholeMask_any n _ hn.2).mono ?_; rintro e w' ⟨rfl, hw'⟩; rw [← hw']; clear hw')
      | (go_at_call 119; refine (HIX.out _ (Below.refl _ _).drew).mono ?_; rintro e w6 ⟨rfl, hj6, hk6⟩; have ks6 := KT.out _ _ (Below.refl _ _).drew hk6; have HJ6 := Lib.hid hj6; clear hj6 hk6))
  all_goals (
    go_wp2
    go_end0
    exact ⟨⟨_, rfl⟩, HJ6.out⟩)

theorem OwnRow.keptC {T : TypeId} {w w' : World} {B : Nat} {v : Value} {xs : List Int} (h : OwnRow T w B v xs) (hk : ∀ (k : Nat) (cs : Array Value) (fr : Nat × Nat), w.heap[k]? = some (Obj.cells cs T fr) → w'.heap[k]? = some (Obj.cells cs T fr)) : OwnRow T w' B v xs := by
  obtain ⟨h1, h2, h3⟩ := h
  refine ⟨h1, h2, ?_⟩
  rcases h3 with h3 | ⟨g, cap, cur, e, hg, hh, r⟩
  · exact Or.inl h3
  · exact Or.inr ⟨g, cap, cur, e, hg, hk _ _ _ hh, r⟩
theorem OwnGrid.keptC {T T1 : TypeId} {w w' : World} {B : Nat} {v : Value} {L : List (List Int)} (h : OwnGrid T T1 w B v L) (hk : ∀ (k : Nat) (cs : Array Value) (U : TypeId) (fr : Nat × Nat), U = T ∨ U = T1 → w.heap[k]? = some (Obj.cells cs U fr) → w'.heap[k]? = some (Obj.cells cs U fr)) : OwnGrid T T1 w' B v L := by
  obtain ⟨R, h2, h3, h4, h5⟩ := h
  refine ⟨R, h2, ?_, fun i hi => (h4 i hi).keptC (fun k cs fr h => hk k cs T fr (.inl rfl) h), h5⟩
  rcases h3 with h3 | ⟨g, cap, cur, e, hg, hh, r⟩
  · exact Or.inl h3
  · exact Or.inr ⟨g, cap, cur, e, hg, hk _ _ _ _ (.inr rfl) hh, r⟩


section
variable {F : Fence} {n : Nat} {P : Program} {ops : Array Oper} {Q : Exit → Act → World → Prop}
theorem anyIn_oneC {fuel : Nat} {listed : Array Bool} {a : Act} {w : World} (i : Nat) (hr : Region.ready .any ops listed = [i]) (h : wpOpIn F n P ops Q i (wpAnyIn F n P .any ops Q fuel (listed.setIfInBounds i true)) a w) : wpAnyIn F n P .any ops Q (fuel + 1) listed a w := by
  refine ⟨fun h0 => (by rw [hr] at h0; cases h0), fun k hk => ?_⟩
  rw [hr] at hk
  simp at hk
  subst hk
  exact h
theorem anyIn_twoC {fuel : Nat} {listed : Array Bool} {a : Act} {w : World} (i j : Nat) (hr : Region.ready .any ops listed = [i, j]) (h : wpOpIn F n P ops Q i (wpAnyIn F n P .any ops Q fuel (listed.setIfInBounds i true)) a w)
    (h' : wpOpIn F n P ops Q j (wpAnyIn F n P .any ops Q fuel (listed.setIfInBounds j true)) a w) : wpAnyIn F n P .any ops Q (fuel + 1) listed a w := by
  refine ⟨fun h0 => (by rw [hr] at h0; cases h0), fun k hk => ?_⟩
  rw [hr] at hk
  simp at hk
  rcases hk with rfl | rfl
  · exact h
  · exact h'
theorem opIn_atC {i : Nat} {o : Oper} {K : Act → World → Prop} {a : Act} {w : World} (ho : ops[i]? = some o) (hg : o.guard = none) (h : o.wpIn F n P a w K Q) : wpOpIn F n P ops Q i K a w := by
  unfold wpOpIn
  rw [ho]
  have hw : Region.wanted o (yielded ops a.tmps) = true := by simp [Region.wanted, hg]
  simp only [hw, if_true]
  exact h
theorem wpIn_append_ownC (w : World) {o : Oper} {a : Act} {K : Act → World → Prop} (s x : Operand) (t : TypeId) (hop : o.op = Op.call { callee := Callee.builtin Builtin.append, args := #[s, x], argTypes := #[t, t] })
    (base : Nat) (e : TypeId) (i : TypeInfo) (z : Value) (size bytes : Nat) (h1 : P.underlying t = some (.slice e)) (h2 : P.info? e = some i) (h3 : i.zero = some z) (h4 : i.size = size) (h5 : i.bytes = bytes) (h6 : z.cells.size = size) (h7 : 0 < size)
    (v : Value) (k : Nat) (xs : List Value) (hs : a.eval s = v) (hown : w.ownsRow base e size v k xs) (ad : Addr) (m c : Nat) (news : List Value) (hx : a.eval x = .slice (some ad) m c) (hn : news.length = m * size)
    (hc : ∀ j u, news[j]? = some u → w.cell? (ad.add j) = some u) (h1c : ∀ u ∈ news, u.oneCell' = true) (b1 : k + m ≤ maxLen) (b2 : (k + m) * bytes ≤ 140737488355328) (b3 : base ≤ w.heap.size)
    (hK : ∀ v' w', w'.ownsRow base e size v' (k + m) (xs ++ news) → w.grownBy w' v.ownBlock → K (a.put o.dst v') w') : o.wpIn F n P a w K Q := by
  obtain ⟨v', w', hrun, r1, r2, r3⟩ := run_append_own (P := P) w base t o.type e i z size bytes h1 h2 h3 h4 h5 h6 h7 v k xs hown ad m c news hn hc h1c b1 b2 b3
  unfold Oper.wpIn
  refine ⟨?_, ?_⟩
  · simp [Oper.about, hop, resolve, Target.leads, Sem.run_pure]
  · rw [Oper.semAt_plain F _ _ (by rw [hop]; intro c hc'; cases hc')]
    simp [execOp, hop, resolve, invoke, builtin, hs, hx, hrun, Result.andThen]
    exact hK v' w' r1 r2
end


/-- The program's list of cliques, half done. -/
def CqI (w : World) (bx B : Nat) (Y : List (List Int)) (W : World) : Prop :=
  (∃ val, W.heap[bx]? = some (.cells #[val] 27 (0, 0)) ∧ OwnGrid 2 31 W B val Y) ∧ Below w.heap.size w W
theorem CqI.iter {w : World} {bx B lo c : Nat} {Y : List (List Int)} {A C : World} (h : CqI w bx B Y A) (hlo : w.heap.size ≤ lo) (hc : lo ≤ c) (ht : ∀ o, A.heap[c]? = some o → (∃ cs fr, o = .cells cs 62 fr) ∨ ∀ cs U fr, o ≠ .cells cs U fr) (hi : IterC lo c A C) : CqI w bx B Y C := by
  obtain ⟨⟨val, hb, hg⟩, hbel⟩ := h
  have hk : ∀ (k : Nat) (cs : Array Value) (U : TypeId) (fr : Nat × Nat), U ≠ 62 → A.heap[k]? = some (Obj.cells cs U fr) → C.heap[k]? = some (Obj.cells cs U fr) := fun k cs U fr hU h => by
    refine hi.other k _ (fun e => ?_) h (fun _ cs' fr' e => ?_)
    · subst e
      rcases ht _ h with ⟨cs', fr', e⟩ | e
      · simp at e; exact hU e.2.1
      · exact e cs U fr rfl
    · simp at e; exact hU e.2.1
  refine ⟨⟨val, hk _ _ _ _ (by decide) hb, hg.keptC (fun k cs U fr hU h => hk k cs U fr (by rcases hU with e | e <;> (rw [e]; decide)) h)⟩, ?_⟩
  refine ⟨hi.os.trans hbel.os, hi.tape.trans hbel.tape, hi.output.trans hbel.output, Nat.le_trans hbel.size hi.size, fun k hk' => ?_⟩
  have he := hbel.block k hk'
  have hs : k < A.heap.size := Nat.lt_of_lt_of_le hk' hbel.size
  have hx : A.heap[k]? = some A.heap[k] := Array.getElem?_eq_getElem hs
  rw [hi.other k _ (by omega) hx (fun h => absurd h (by omega)), ← hx]
  exact he

set_option maxHeartbeats 4000000 in
set_option maxRecDepth 100000 in
theorem implCliquesOf_any (v : Value) (L : List (List Int)) (w : World) (h : GridAt w v L) : Calls Try.prog 30 #[.agg #[v]] w (GaveGrid w (cqlL L)) := by
  obtain ⟨j0, hj, hy0, hy1, hy2⟩ := info_parts Try.infoR
  obtain ⟨a0, c0, rfl⟩ := h.slice
  have ha : Below w.heap.size w (w.alloc (.cells #[.slice a0 L.length c0] 29)) := (Below.refl _ _).alloc (Nat.le_refl _) _
  have hk := h.keep ha
  have HA := Lib.hid ha
  clear ha
  refine calls_marks Try.func30 rfl ?_
  simp only [Try.ntmps30, List.size_toArray, List.length_cons, List.length_nil, Nat.reduceAdd, Nat.reduceSub, Array.replicate_succ, Array.replicate_zero, List.push_toArray, List.append_toArray, List.nil_append, List.cons_append]
  go_wp2_with fail
  refine (netOf_any _ _ _ hk).mono ?_
  rintro e w1 ⟨rfl, hb1⟩
  have HB1 : Hid (Below w.heap.size w w1) := HA.out.trans (hb1.mono (by simp))
  have hz : w.heap.size ≤ w1.heap.size := HB1.out.size
  have hnb := netBlk_new w1 0 (fun _ => 0)
  clear hb1 hk h HA
  by_cases hG : GraphP L
  · have hzz := hG.1
    have HREL := Lib.hid (adjB_rel hG)
    have HRM : Hid (∀ i, i < 16 → rowM L i = pm (adjB L i)) := fun i _ => by rw [rowM_pm hG]
    have HE : Hid (cqlL L = cqF (adjB L) 17 [] (allL L.length) []) := if_pos hG
    have HST : Hid (∀ z ∈ cqF (adjB L) 17 [] (allL L.length) [], SetP z L.length) := cqF_sets (adjB L) 17 [] (allL L.length) [] (fun i hi => absurd hi (by simp)) (allL_set _) (fun x hx => absurd hx (by simp))
    have HLN : Hid ((cqF (adjB L) 17 [] (allL L.length) []).length ≤ 65536) := by
      have h1 := cqF_len (adjB L) 17 [] (allL L.length) []
      have hp : 2 ^ (allL L.length).length ≤ 2 ^ 16 := Nat.pow_le_pow_right (by omega) (by rw [allL_len]; exact hzz.2)
      exact Nat.le_trans h1 (Nat.le_trans hp (by decide))
    rw [decide_eq_true hG, netArr_yes hG]
    clear hG
    go_wp2_with (first | (refine wpList_store_net rfl 65 (.tmp 3) (.tmp 10) rfl w1.heap.size L.length (rowM L) rfl rfl Try.sizeNet 0 (fun _ => 0) hnb ?_; intro w3 hp; have HNet := Lib.hid (hp.net.congr rfl HRM.out); have HB3 : Hid (Below w.heap.size w w3) := (HB1.out.alloc hz _).trans (hp.below.mono hz); clear hp) | (go_at_call 78; refine (cliques_any _ _).mono ?_; rintro e w' ⟨rfl, rfl⟩))
    have hz3 : w.heap.size ≤ w3.heap.size := HB3.out.size
    obtain ⟨w5, hw5⟩ : ∃ w5, ((w3.alloc (.cells #[] 31)).alloc (.cells #[.slice (some ⟨w3.heap.size, 0, none⟩) 0 0] 27)).alloc (.cells #[.pointer (some ⟨w1.heap.size, 0, none⟩)] 102) = w5 := ⟨_, rfl⟩
    have hb5 : Below w3.heap.size w3 w5 := by rw [← hw5]; exact (((Below.refl _ _).alloc (Nat.le_refl _) _).alloc (by simp) _).alloc (by simp; omega) _
    have hs5 : w5.heap.size = w3.heap.size + 3 := by rw [← hw5]; simp
    have hbx5 : w5.heap[w3.heap.size + 1]? = some (.cells #[.slice (some ⟨w3.heap.size, 0, none⟩) 0 0] 27 (0, 0)) := by
      rw [← hw5]
      have h1 := World.alloc_heap_new (w3.alloc (.cells #[] 31)) (.cells #[.slice (some ⟨w3.heap.size, 0, none⟩) 0 0] 27)
      rw [World.size_alloc] at h1
      exact (Below.heap_alloc _ _ _ (by simp)).trans h1
    have hpt5 : w5.heap[w3.heap.size + 1 + 1]? = some (.cells #[.pointer (some ⟨w1.heap.size, 0, none⟩)] 102 (0, 0)) := by
      rw [← hw5]
      have h1 := World.alloc_heap_new ((w3.alloc (.cells #[] 31)).alloc (.cells #[.slice (some ⟨w3.heap.size, 0, none⟩) 0 0] 27)) (.cells #[.pointer (some ⟨w1.heap.size, 0, none⟩)] 102)
      simpa using h1
    have hog5 : OwnGrid 2 31 w5 w3.heap.size (.slice (some ⟨w3.heap.size, 0, none⟩) 0 0) [] := by
      have h1 : OwnGrid 2 31 (w3.alloc (.cells #[] 31)) w3.heap.size (.slice (some ⟨w3.heap.size, 0, none⟩) 0 0) [] :=
        ⟨fun _ => undef, by simp, Or.inr ⟨w3.heap.size, 0, #[], rfl, Nat.le_refl _, heap_alloc_new w3 _, Nat.zero_le _, Nat.zero_le _, rfl, fun i hi => absurd hi (by simp)⟩, fun i hi => absurd hi (by simp), fun i j k _ hj => absurd hj (by simp)⟩
      refine h1.keep ?_
      rw [← hw5]
      exact ((Below.refl _ _).alloc (Nat.le_refl _) _).alloc (by simp) _
    have HSQ := Lib.hid (cliques1_seq 8 (w3.heap.size + 2) w1.heap.size L.length (adjB L) w5 HREL.out hzz hpt5 (HNet.out.keep hb5))
    have H0 : Hid (CqI w (w3.heap.size + 1) w3.heap.size [] w5) := ⟨⟨_, hbx5, hog5⟩, HB3.out.trans (hb5.mono hz3)⟩
    simp only [Nat.add_assoc, Nat.reduceAdd] at *
    rw [hw5]
    clear hw5 hb5 hbx5 hpt5 hog5 HNet HB3 HB1 hnb
    refine (wpIn_wide (n := 9)).1 ?_
    refine wpIn_rangeFunc_ty rfl (by omega) (gf := 118) (lb := #[.pointer (some ⟨w3.heap.size + 2, 0, none⟩)]) rfl trivial (enters_of Try.func118 (by kernel_rfl) rfl)
      HSQ.out (fun _ => rfl)
      (fun pre W => CqI w (w3.heap.size + 1) w3.heap.size pre W)
      (fun s A C c hs hc ht hi => hs.iter (by omega) hc ht hi)
      H0.out
      ?a1 ?assign ?body ?done
    case assign =>
      intro l x W K hK
      simp only [encC]
      gi_wp2
      exact hK
    case body =>
      rintro l pre x W ⟨⟨val, hbx, hog⟩, hb⟩ hpx
      have HXL : Hid (listM (mkB x) = x) := mkB_list hzz.2 (HST.out x (hpx.subset (List.mem_append_right _ List.mem_cons_self)))
      have hlen : pre.length ≤ 65536 := by
        have h1 := hpx.length_le
        rw [List.length_append, List.length_singleton] at h1
        have := HLN.out
        omega
      have hbc : W.cell? ⟨w3.heap.size + 1, 0, none⟩ = some val := by rw [cell_of_row W _ 0 _ _ _ hbx]; rfl
      have hbf : W.frozen? ⟨w3.heap.size + 1, 0, none⟩ = false := frozen_of_row W _ 0 _ _ hbx
      obtain ⟨R, hR, hRr, hRd⟩ := hog.owns
      have HR := Lib.hid hR
      have HRr := Lib.hid hRr
      have HRd := Lib.hid hRd
      have HBX := Lib.hid hbx
      have HB := Lib.hid hb
      clear hR hRr hRd hog hb hpx
      have hmix : Try.prog.follows .mixedOrders = true := by kernel_rfl
      gi_wp2_with fail
      refine wpIn_region_any hmix ?_
      refine anyIn_twoC 0 1 (by kernel_rfl) ?o0 ?o1
      case' o1 =>
        refine opIn_atC rfl rfl ?_
        simp [go_sem, Oper.wpIn, Oper.about, Oper.uponIn]
        refine anyIn_twoC 0 2 (by kernel_rfl) ?o2 ?o3
      case' o3 =>
        refine opIn_atC rfl rfl ?_
        simp [go_sem, Oper.wpIn, Oper.about, Oper.uponIn]
        refine ⟨trivial, ?_⟩
        refine (CallsIn.inRound l (callsIn_wide.2 (list_any _ _ (mkB_lt x)))).mono ?_
        rintro e w7 ⟨n7, a7, c7, rfl, ho7, hb7⟩
        have hbc7 := cell_keep hb7 (cell_keep (Below.refl _ _).drew hbc)
        refine anyIn_twoC 0 3 (by kernel_rfl) ?o4 ?o5
      case' o0 =>
        refine opIn_atC rfl rfl ?_
        simp [go_sem, Oper.wpIn, Oper.about, Oper.uponIn, hbc]
        refine anyIn_oneC 1 (by kernel_rfl) ?_
        refine opIn_atC rfl rfl ?_
        simp [go_sem, Oper.wpIn, Oper.about, Oper.uponIn]
        refine anyIn_oneC 2 (by kernel_rfl) ?_
        refine opIn_atC rfl rfl ?_
        simp [go_sem, Oper.wpIn, Oper.about, Oper.uponIn]
        refine ⟨trivial, ?_⟩
        refine (CallsIn.inRound l (callsIn_wide.2 (list_any _ _ (mkB_lt x)))).mono ?_
        rintro e w7 ⟨n7, a7, c7, rfl, ho7, hb7⟩
        have hbc7 := cell_keep hb7 (cell_keep (Below.refl _ _).drew hbc)
        refine anyIn_oneC 3 (by kernel_rfl) ?_
        refine opIn_atC rfl rfl ?_
        simp [go_sem, Oper.wpIn, Oper.about, Oper.uponIn]
      case' o2 =>
        refine opIn_atC rfl rfl ?_
        simp [go_sem, Oper.wpIn, Oper.about, Oper.uponIn, hbc]
        refine anyIn_oneC 2 (by kernel_rfl) ?_
        refine opIn_atC rfl rfl ?_
        simp [go_sem, Oper.wpIn, Oper.about, Oper.uponIn]
        refine ⟨trivial, ?_⟩
        refine (CallsIn.inRound l (callsIn_wide.2 (list_any _ _ (mkB_lt x)))).mono ?_
        rintro e w7 ⟨n7, a7, c7, rfl, ho7, hb7⟩
        have hbc7 := cell_keep hb7 (cell_keep (Below.refl _ _).drew hbc)
        refine anyIn_oneC 3 (by kernel_rfl) ?_
        refine opIn_atC rfl rfl ?_
        simp [go_sem, Oper.wpIn, Oper.about, Oper.uponIn]
      case' o4 =>
        refine opIn_atC rfl rfl ?_
        simp [go_sem, Oper.wpIn, Oper.about, Oper.uponIn, hbc7]
        refine anyIn_oneC 3 (by kernel_rfl) ?_
        refine opIn_atC rfl rfl ?_
        simp [go_sem, Oper.wpIn, Oper.about, Oper.uponIn]
      case' o5 =>
        refine opIn_atC rfl rfl ?_
        simp [go_sem, Oper.wpIn, Oper.about, Oper.uponIn]
        have hbc8 := cell_keep (w' := w7.alloc (.cells #[.slice a7 n7 c7] 31)) ((Below.refl _ _).alloc (Nat.le_refl _) _) hbc7
        refine anyIn_oneC 0 (by kernel_rfl) ?_
        refine opIn_atC rfl rfl ?_
        simp [go_sem, Oper.wpIn, Oper.about, Oper.uponIn, hbc8]
      all_goals (
        have hb7W : Below W.heap.size W w7 := (Below.refl _ _).drew.trans hb7
        have ho7 : OwnRow 2 w7 W.heap.size (.slice a7 n7 c7) x := by have h := ho7; rw [HXL.out] at h; exact h
        have hbA : Below w7.heap.size w7 (w7.alloc (.cells #[.slice a7 n7 c7] 31)) := (Below.refl _ _).alloc (Nat.le_refl _) _
        have hbWA : Below W.heap.size W (w7.alloc (.cells #[.slice a7 n7 c7] 31)) := hb7W.trans (hbA.mono hb7W.size)
        have hzW : w3.heap.size ≤ W.heap.size := by have := (Array.getElem?_eq_some_iff.1 HBX.out).1; omega
        have hzA := hbWA.size
        refine anyIn_oneC 4 (by kernel_rfl) ?_
        refine opIn_atC rfl rfl ?_
        refine wpIn_append_ownC _ (.tmp 17) (.tmp 20) 27 rfl w3.heap.size 31 j0 (.slice none 0 0) 1 24 Try.underlying27 hj hy0 hy1 hy2 rfl (by decide) val _ _ rfl (ownsRow_keep HR.out hbWA) ⟨w7.heap.size, 0, none⟩ 1 1 [.slice a7 n7 c7] rfl rfl ?_ ?_ ?_ ?_ ?_ ?_
        · intro j u hj
          match j, hj with
          | 0, hj => simp at hj; subst hj; simp [Addr.add]
        · intro u hu; simp at hu; subst hu; rfl
        · unfold maxLen; omega
        · omega
        · omega
        intro v8 w8 hown8 hgrow8
        have hog8 := OwnGrid.snoc (T := 2) (T1 := 31) (by decide) hbWA hzW (ho7.keep hbA) rfl (by unfold maxLen; omega) R HR.out HRr.out HRd.out hown8 hgrow8
        have hbox8 : w8.heap[w3.heap.size + 1]? = some (.cells #[val] 27 (0, 0)) := by
          rw [hgrow8.block _ (by have := (Array.getElem?_eq_some_iff.1 HBX.out).1; omega) ?_]
          · exact (hbWA.block _ (Array.getElem?_eq_some_iff.1 HBX.out).1).trans HBX.out
          · intro e
            rcases HR.out.2 with ⟨e3, _⟩ | ⟨g', cap', cur', e3, _, hh', _⟩
            · rw [e3] at e; simp [Value.ownBlock] at e
            · rw [e3] at e
              simp [Value.ownBlock] at e
              subst e
              rw [HBX.out] at hh'
              simp at hh'
        obtain ⟨a8, c8, e8⟩ := hog8.grid.slice
        subst e8
        have hbc8' : w8.cell? ⟨w3.heap.size + 1, 0, none⟩ = some val := by rw [cell_of_row w8 _ 0 _ _ _ hbox8]; rfl
        have hbf8 : w8.frozen? ⟨w3.heap.size + 1, 0, none⟩ = false := frozen_of_row w8 _ 0 _ _ hbox8
        have hne : ∀ k o, W.heap[k]? = some o → (∀ cs fr, o ≠ Obj.cells cs 31 fr) → some k ≠ val.ownBlock := fun k o hk hU e => by
          rcases HR.out.2 with ⟨e3, _⟩ | ⟨g', cap', cur', e3, _, hh', _⟩
          · rw [e3] at e; simp [Value.ownBlock] at e
          · rw [e3] at e
            simp [Value.ownBlock] at e
            subst e
            rw [hk] at hh'
            exact hU _ _ (Option.some.inj hh')
        have hge : ∀ k, val.ownBlock = some k → w3.heap.size ≤ k := fun k hk => (HR.out.lt k hk).1
        have hall : ∀ k o, W.heap[k]? = some o → (∀ cs fr, o ≠ Obj.cells cs 31 fr) → k ≠ w3.heap.size + 1 → (w8.setCell ⟨w3.heap.size + 1, 0, none⟩ (.slice a8 (pre ++ [x]).length c8)).heap[k]? = some o := fun k o hk hU hkx => by
          rw [heap_setCell_other _ _ _ _ (by simpa using hkx)]
          have hl := (Array.getElem?_eq_some_iff.1 hk).1
          exact (hgrow8.block k (by omega) (hne k o hk hU)).trans ((hbWA.block k hl).trans hk)
        have HKT : Hid (KeepsT W (w8.setCell ⟨w3.heap.size + 1, 0, none⟩ (.slice a8 (pre ++ [x]).length c8))) := fun k cs U fr hk h1 h2 =>
          hall k _ hk (fun cs' fr' e => by simp at e; exact h1 e.2.1) (fun e => by subst e; have h3 := HBX.out; rw [hk] at h3; simp at h3; exact h2 h3.2.1)
        have HKN : Hid (KeepsN W (w8.setCell ⟨w3.heap.size + 1, 0, none⟩ (.slice a8 (pre ++ [x]).length c8))) := fun k o hk h1 =>
          hall k _ hk (fun cs' fr' => h1 _ _ _) (fun e => by subst e; have h3 := HBX.out; rw [hk] at h3; exact h1 _ _ _ (Option.some.inj h3))
        have HPI : Hid (CqI w (w3.heap.size + 1) w3.heap.size (pre ++ [x]) (w8.setCell ⟨w3.heap.size + 1, 0, none⟩ (.slice a8 (pre ++ [x]).length c8))) := by
          refine ⟨⟨_, heap_setCell_same w8 _ 0 _ _ _ hbox8, ?_⟩, ?_⟩
          · refine hog8.keptC (fun k cs U fr hU hk => ?_)
            rw [heap_setCell_other _ _ _ _ ?_]
            · exact hk
            · intro e
              simp at e
              subst e
              rw [hbox8] at hk
              simp at hk
              rcases hU with h | h <;> (rw [h] at hk; exact absurd hk.2.1 (by decide))
          · exact ((HB.out.trans (hbWA.mono HB.out.size)).grown hgrow8 (by have := HB.out.size; omega) (fun j hj => by have := hge j hj; omega)).setCell (p := ⟨w3.heap.size + 1, 0, none⟩) (by simp; omega) _
        clear hog8 hgrow8 hown8 hbox8 hne hge ho7 hb7 hb7W hbA hbWA hall
        refine anyIn_oneC 5 (by kernel_rfl) ?_
        refine opIn_atC rfl rfl ?_
        simp [go_sem, Oper.wpIn, Oper.about, Oper.uponIn, hbc8', hbf8]
        refine ⟨by kernel_rfl, ?_⟩
        have hlen8 : (pre ++ [x]).length = pre.length + 1 := by simp
        rw [hlen8] at HKT HKN HPI
        exact ⟨HKT.out, HKN.out, HPI.out⟩)
    case done =>
      rintro D W ⟨⟨val, hbx, hog⟩, hb⟩ hD hK
      obtain ⟨a8, c8, e8⟩ := hog.grid.slice
      subst e8
      have hbc : W.cell? ⟨w3.heap.size + 1, 0, none⟩ = some (.slice a8 (cqF (adjB L) 17 [] (allL L.length) []).length c8) := by rw [cell_of_row W _ 0 _ _ _ hbx]; rfl
      have HK := Lib.hid hK
      have hDW : D < W.heap.size := (Array.getElem?_eq_some_iff.1 hK).1
      have HP : Hid (GaveGrid w (cqlL L) (.returned (.slice a8 (cqF (adjB L) 17 [] (allL L.length) []).length c8)) (W.putObj D (.deferred none))) := by
        rw [HE.out]
        refine ⟨_, _, _, rfl, (hog.mono hz3).keptC (fun k cs U fr _ h => ?_), hb.trans (below_put W D _ (by omega) hDW)⟩
        rw [World.putObj_heap_other (fun e => ?_)]
        · exact h
        · subst e; rw [hK] at h; cases h
      clear hbx hog hb hK
      go_wp2
      refine ⟨by simp, .inl ⟨_, _, rfl, run_takeDeferred HK.out, ?_⟩⟩
      exact ⟨_, results_tmp rfl _ _ _, by simpa using HP.out⟩
  · have HE : Hid (cqlL L = []) := if_neg hG
    rw [decide_eq_false hG, netArr_no hG]
    clear hG
    go_wp2_with (refine wpList_store_net rfl 65 (.tmp 3) (.tmp 10) rfl w1.heap.size 0 (fun _ => 0) rfl rfl Try.sizeNet 0 (fun _ => 0) hnb ?_; intro w3 hp; have HB3 : Hid (Below w.heap.size w w3) := (HB1.out.alloc hz _).trans (hp.below.mono hz); clear hp)
    exact ⟨_, results_tmp rfl _ _ _, _, _, _, rfl, by rw [HE.out]; exact ⟨fun _ => undef, by simp, .inl ⟨rfl, rfl⟩, fun i hi => absurd hi (by simp), fun i j k _ hj => absurd hj (by simp)⟩, HB3.out⟩

end Go.Proofs.Ytmfolclpddoplaa
