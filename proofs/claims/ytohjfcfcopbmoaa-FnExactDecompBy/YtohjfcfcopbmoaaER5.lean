/- Walks: what is left of a net, at first. -/
import Derived.Test.YtohjfcfcopbmoaaQER1
import Derived.Test.YtohjfcfcopbmoaaQB4

namespace Go.Proofs.Ytohjfcfcopbmoaa
open Go.RowKit

/-- The cells of what is left, as an array. -/
def remArr (n : Nat) (M : Nat → Nat) (lf : Nat → Int) (m : Nat) : Array Value :=
  #[.int .i64 (n : Int), .int .u32 (M 0 : Int), .int .u32 (M 1 : Int), .int .u32 (M 2 : Int), .int .u32 (M 3 : Int), .int .u32 (M 4 : Int), .int .u32 (M 5 : Int), .int .u32 (M 6 : Int), .int .u32 (M 7 : Int), .int .u32 (M 8 : Int), .int .u32 (M 9 : Int), .int .u32 (M 10 : Int), .int .u32 (M 11 : Int), .int .u32 (M 12 : Int), .int .u32 (M 13 : Int), .int .u32 (M 14 : Int), .int .u32 (M 15 : Int),
    .int .i64 (lf 0), .int .i64 (lf 1), .int .i64 (lf 2), .int .i64 (lf 3), .int .i64 (lf 4), .int .i64 (lf 5), .int .i64 (lf 6), .int .i64 (lf 7), .int .i64 (lf 8), .int .i64 (lf 9), .int .i64 (lf 10), .int .i64 (lf 11), .int .i64 (lf 12), .int .i64 (lf 13), .int .i64 (lf 14), .int .i64 (lf 15), .int .i64 (m : Int)]
theorem remArr_size (n : Nat) (M : Nat → Nat) (lf : Nat → Int) (m : Nat) : (remArr n M lf m).size = 34 := rfl
theorem remArr_get (n : Nat) (M : Nat → Nat) (lf : Nat → Int) (m : Nat) {i : Nat} (h : i < 34) : (remArr n M lf m)[i]? = some (remF n M lf m i) := by
  have h2 : i = 0 ∨ i = 1 ∨ i = 2 ∨ i = 3 ∨ i = 4 ∨ i = 5 ∨ i = 6 ∨ i = 7 ∨ i = 8 ∨ i = 9 ∨ i = 10 ∨ i = 11 ∨ i = 12 ∨ i = 13 ∨ i = 14 ∨ i = 15 ∨ i = 16 ∨ i = 17 ∨ i = 18 ∨ i = 19 ∨ i = 20 ∨ i = 21 ∨ i = 22 ∨ i = 23 ∨ i = 24 ∨ i = 25 ∨ i = 26 ∨ i = 27 ∨ i = 28 ∨ i = 29 ∨ i = 30 ∨ i = 31 ∨ i = 32 ∨ i = 33 := by omega
  rcases h2 with rfl | rfl | rfl | rfl | rfl | rfl | rfl | rfl | rfl | rfl | rfl | rfl | rfl | rfl | rfl | rfl | rfl | rfl | rfl | rfl | rfl | rfl | rfl | rfl | rfl | rfl | rfl | rfl | rfl | rfl | rfl | rfl | rfl | rfl <;> rfl
theorem remArr_one (n : Nat) (M : Nat → Nat) (lf : Nat → Int) (m : Nat) : (remArr n M lf m).all (·.oneCell') = true := by simp [remArr, Value.oneCell']
theorem remArr_row {w : World} {g n m : Nat} {M : Nat → Nat} {lf : Nat → Int} (h : w.heap[g]? = some (.cells (remArr n M lf m) 83 (0, 0))) : w.rowIs g 83 34 (remF n M lf m) :=
  ⟨_, h, rfl, fun i hi => remArr_get n M lf m hi⟩
theorem remArr_of {w : World} {g n m : Nat} {M : Nat → Nat} {lf : Nat → Int} (h : w.rowIs g 83 34 (remF n M lf m)) : w.heap[g]? = some (.cells (remArr n M lf m) 83 (0, 0)) := by
  obtain ⟨c, hb, hn, hc⟩ := h
  rw [hb]
  have : c = remArr n M lf m := by
    apply Array.ext_getElem?
    intro i
    by_cases hi : i < 34
    · rw [hc i hi, remArr_get n M lf m hi]
    · rw [Array.getElem?_eq_none (by omega), Array.getElem?_eq_none (by rw [remArr_size]; omega)]
  rw [this]
theorem Try.sizeRem : (Try.prog.info? 83).map (·.size) = some 34 := by kernel_rfl

theorem step_load_agg {P : Program} {ops : Array Oper} {o : Oper} {a : Act} {w : World} {K : Act → World → Prop} {Q : Exit → Act → World → Prop} {E : Prop} (hgd : o.guard = none) (ty : TypeId) (x : Operand) (ho : o.op = .load ty x)
    (g : Nat) (cs : Array Value) (hx : a.eval x = .pointer (some ⟨g, 0, none⟩)) (hi : (P.info? ty).map (·.size) = some cs.size) (d : TypeDesc) (hu : P.underlying ty = some d) (hd : (match d with | .struct _ | .array _ _ => true | _ => false) = true)
    (t : TypeId) (fr : Nat × Nat) (hg : w.heap[g]? = some (.cells cs t fr)) (h : K (a.put o.dst (.agg cs)) w) : if Region.wanted o (yielded ops a.tmps) = true then Oper.wp P o a w K Q else E := by
  have hw : Region.wanted o (yielded ops a.tmps) = true := by simp [Region.wanted, hgd]
  rw [if_pos hw]
  exact wp_load_row ty x ho g hx t cs fr d hg hu hd hi h
theorem step_store_agg {P : Program} {ops : Array Oper} {o : Oper} {a : Act} {w : World} {K : Act → World → Prop} {Q : Exit → Act → World → Prop} {E : Prop} (hgd : o.guard = none) (ty : TypeId) (x y : Operand) (ho : o.op = .store ty x y)
    (g : Nat) (cs : Array Value) (hx : a.eval x = .pointer (some ⟨g, 0, none⟩)) (hy : a.eval y = .agg cs) (hi : (P.info? ty).map (·.size) = some cs.size)
    (t : TypeId) (old : Array Value) (hg : w.heap[g]? = some (.cells old t (0, 0))) (hold : old.size = cs.size) (h1 : cs.all (·.oneCell') = true)
    (h : ∀ w', w'.heap[g]? = some (.cells cs t (0, 0)) → Touched g (g + 1) w w' → K (a.put o.dst undef) w') : if Region.wanted o (yielded ops a.tmps) = true then Oper.wp P o a w K Q else E := by
  have hw : Region.wanted o (yielded ops a.tmps) = true := by simp [Region.wanted, hgd]
  rw [if_pos hw]
  exact wp_store_row ty x y ho g cs hx hy t old hg hi hold h1 (h _ (setRow_heap w g _ _ t _ hg) ⟨rfl, rfl, rfl, by simp [World.setRow], fun k _ hk => setRow_other w g k _ (by omega)⟩)

theorem step_copy_at {P : Program} {ops : Array Oper} {o : Oper} {a : Act} {w : World} {K : Act → World → Prop} {Q : Exit → Act → World → Prop} {E : Prop} (hgd : o.guard = none) (d s : Operand) (dT sT : TypeId)
    (ho : o.op = .call { callee := .builtin .copy, args := #[d, s], argTypes := #[dT, sT] }) (elem : TypeId) (hu : P.underlying dT = some (.slice elem)) (hsz : (P.info? elem).map (·.size) = some 1)
    (dp sp : Option Addr) (dLen dCap sLen sCap : Nat) (hd : a.eval d = .slice dp dLen dCap) (hs : a.eval s = .slice sp sLen sCap)
    (g off : Nat) (cur : List Value) (t : TypeId) (hg : w.heap[g]? = some (.cells cur.toArray t (0, 0))) (cs : List Value) (hn : cs.length = Nat.min sLen dLen)
    (hpos : 0 < cs.length → dp = some ⟨g, off, none⟩ ∧ ∃ ad, sp = some ad ∧ ∀ j v, cs[j]? = some v → w.cell? (ad.add j) = some v)
    (hfit : off + cs.length ≤ cur.length) (h1 : ∀ v ∈ cs, v.oneCell' = true)
    (h : ∀ w', Hid (w'.heap[g]? = some (.cells (splice cur off cs).toArray t (0, 0))) → Touched g (g + 1) w w' → K (a.put o.dst (goInt cs.length)) w') :
    if Region.wanted o (yielded ops a.tmps) = true then Oper.wp P o a w K Q else E := by
  have hw : Region.wanted o (yielded ops a.tmps) = true := by simp [Region.wanted, hgd]
  rw [if_pos hw]
  by_cases h0 : cs.length = 0
  · obtain rfl : cs = [] := List.eq_nil_of_length_eq_zero h0
    have hrun := run_copy_none (P := P) w dT sT o.type elem dp sp dLen dCap sLen sCap hu hsz (by simpa using hn.symm)
    unfold Oper.wp
    simp [execOp, ho, resolve, invoke, builtin, hd, hs, hrun, Result.andThen]
    exact h w (show _ = _ by simpa [splice] using hg) (Touched.refl _ _ _)
  · obtain ⟨rfl, ad, rfl, hsrc⟩ := hpos (by omega)
    have hrun := run_copy_row (P := P) w dT sT o.type elem g off dLen dCap ad sLen sCap cur.toArray t cs hu hsz hg hn hsrc (by simpa using hfit) h1
    unfold Oper.wp
    simp [execOp, ho, resolve, invoke, builtin, hd, hs, hrun, Result.andThen]
    exact h _ (show _ = _ by simpa [splice] using setRow_heap w g _ _ t _ hg) ⟨rfl, rfl, rfl, by simp [World.setRow], fun k _ hk => setRow_other w g k _ (by omega)⟩
/-- The list of all that are left, at first. -/
def allF (n i : Nat) : Int := if i < n then (i : Int) else 0
def allC (n : Nat) : List Value := (List.range n).map (fun i : Nat => Value.int .i64 (i : Int))
theorem allC_len (n : Nat) : (allC n).length = n := by simp [allC]
theorem allC_one (n : Nat) : ∀ v ∈ allC n, v.oneCell' = true := by
  intro v hv
  simp only [allC, List.mem_map] at hv
  obtain ⟨i, _, rfl⟩ := hv
  rfl
theorem all_row {w' : World} {g n : Nat} {M : Nat → Nat} (hn : n ≤ 16)
    (h : w'.heap[g]? = some (.cells (splice ((List.range 34).map (remF n M (fun _ => 0) n)) 17 (allC n)).toArray 83 (0, 0))) : w'.rowIs g 83 34 (remF n M (allF n) n) := by
  have hl := allC_len n
  have hfit : 17 + (allC n).length ≤ ((List.range 34).map (remF n M (fun _ => 0) n)).length := by rw [hl, List.length_map, List.length_range]; omega
  refine ⟨_, h, by rw [List.size_toArray, length_splice _ _ _ hfit]; simp, fun i hi => ?_⟩
  rw [List.getElem?_toArray, splice_get _ _ _ hfit, hl]
  have e0 : ((List.range 34).map (remF n M (fun _ => 0) n))[i]? = some (remF n M (fun _ => 0) n i) := by simp [hi]
  by_cases h1 : i < 17
  · rw [if_pos h1, e0]
    unfold remF
    congr 1
    by_cases c0 : i = 0
    · rw [if_pos c0, if_pos c0]
    · rw [if_neg c0, if_neg c0, if_pos h1, if_pos h1]
  · rw [if_neg h1]
    have d0 : ¬ i = 0 := by omega
    by_cases h2 : i < 17 + n
    · rw [if_pos h2]
      have : (allC n)[i - 17]? = some (.int .i64 (((i - 17 : Nat)) : Int)) := by
        unfold allC
        rw [List.getElem?_map, List.getElem?_range (by omega)]; rfl
      rw [this]
      unfold remF allF
      rw [if_neg d0, if_neg h1, if_pos (by omega), if_pos (by omega)]
    · rw [if_neg h2, e0]
      unfold remF allF
      congr 1
      rw [if_neg d0, if_neg h1, if_neg d0, if_neg h1]
      by_cases c2 : i < 33
      · rw [if_pos c2, if_pos c2, if_neg (by omega)]
      · rw [if_neg c2, if_neg c2]
theorem listM_whole {n : Nat} (hn : n ≤ 16) : listM (2 ^ n - 1) = allL n := by
  refine sets_eq (listM_set _) (SetP.mk (allL_pair n) (fun x hx => by obtain ⟨i, hi, rfl⟩ := (allL_mem _ _).1 hx; omega)) (fun z => ?_)
  rw [listM_mem, allL_mem]
  constructor
  · rintro ⟨i, hi, hb, rfl⟩
    rw [Nat.testBit_two_pow_sub_one, decide_eq_true_iff] at hb
    exact ⟨i, hb, rfl⟩
  · rintro ⟨i, hi, rfl⟩
    exact ⟨i, by omega, by rw [Nat.testBit_two_pow_sub_one, decide_eq_true_iff]; exact hi, rfl⟩
theorem all_src {w : World} {n B : Nat} {a : Option Addr} {c : Nat} (h : OwnRow 2 w B (.slice a n c) (allL n)) (h0 : 0 < n) : ∃ ad, a = some ad ∧ ∀ j v, (allC n)[j]? = some v → w.cell? (ad.add j) = some v := by
  obtain ⟨b, o, c', e, _, _, hc⟩ := h.row.pos (by rw [allL_len]; exact h0)
  simp only [Value.slice.injEq] at e
  refine ⟨⟨b, o, none⟩, e.1, fun j v hj => ?_⟩
  have hjl : j < n := by
    rcases Nat.lt_or_ge j n with h1 | h1
    · exact h1
    · rw [List.getElem?_eq_none (by rw [allC_len]; exact h1)] at hj; cases hj
  have e2 : v = .int .i64 (j : Int) := by
    unfold allC at hj
    rw [List.getElem?_map, List.getElem?_range hjl] at hj
    exact (Option.some.inj hj).symm
  have h3 := hc j (by rw [allL_len]; exact hjl)
  have h4 : nth (allL n) j = (j : Int) := by simp [nth, allL, hjl]
  rw [h4] at h3
  rw [e2, ← h3]
  unfold Addr.add
  split
  · rename_i e0; subst e0; rfl
  · rfl

set_option maxHeartbeats 4000000 in
set_option maxRecDepth 100000 in
theorem remains_any (bn n : Nat) (M : Nat → Nat) (w : World) (h : NetBlk 61 w bn n M) (hn : 1 ≤ n ∧ n ≤ 16) (hM : ∀ i, M i < 65536) :
    Calls Try.prog 61 #[.pointer (some ⟨bn, 0, none⟩)] w fun e w' => ∃ lf : Nat → Int, e = .returned (.agg (remArr n M lf n)) ∧ (∀ i, i < n → lf i = (i : Int)) ∧ Below w.heap.size w w' := by
  have hbl := h.lt
  have H := Lib.hid h
  have k0 := h.at.1
  have HNB : Hid (∀ W, Below w.heap.size w W → W.heap[bn]? = some (.cells (netArr n M) 61 (0, 0))) := fun W hb => h.keep hb
  clear h
  go_enter Try.func61, Try.ntmps61
  go_wp2_with fail
  refine wp_region_any (by kernel_rfl) ?_
  change wpAny _ _ _ _ _ _ _ (World.drew _)
  refine wpAny_take (i := 0) (v := .pointer (some ⟨bn, 0, none⟩)) rfl (by kernel_rfl) (by kernel_rfl) (by kernel_rfl) (fun _ _ _ h => h) (Or.inl ⟨by rfl, by intro w; go_simp⟩) ?_
  simp only [Act.put, List.getElem_toArray, List.getElem_cons_succ, List.getElem_cons_zero, List.setIfInBounds_toArray, List.set_cons_zero, List.set_cons_succ]
  refine wpAny_take (i := 1) (v := .pointer (some ⟨bn, 0, none⟩)) rfl (by kernel_rfl) (by kernel_rfl) (by kernel_rfl) (fun _ _ _ h => h) (Or.inl ⟨by rfl, by intro w; go_simp⟩) ?_
  simp only [Act.put, List.getElem_toArray, List.getElem_cons_succ, List.getElem_cons_zero, List.setIfInBounds_toArray, List.set_cons_zero, List.set_cons_succ]
  refine wpAny_take (i := 3) (v := .pointer (some ⟨bn, 0, none⟩)) rfl (by kernel_rfl) (by kernel_rfl) (by kernel_rfl) (fun _ _ _ h => h) (Or.inl ⟨by rfl, by intro w; go_simp⟩) ?_
  simp only [Act.put, List.getElem_toArray, List.getElem_cons_succ, List.getElem_cons_zero, List.setIfInBounds_toArray, List.set_cons_zero, List.set_cons_succ]
  refine wpAny_take (i := 4) (v := .pointer (some ⟨bn, 0, none⟩)) rfl (by kernel_rfl) (by kernel_rfl) (by kernel_rfl) (fun _ _ _ h => h) (Or.inl ⟨by rfl, by intro w; go_simp⟩) ?_
  simp only [Act.put, List.getElem_toArray, List.getElem_cons_succ, List.getElem_cons_zero, List.setIfInBounds_toArray, List.set_cons_zero, List.set_cons_succ]
  refine wpAny_take (i := 5) (v := .pointer (some ⟨bn, 0, none⟩)) rfl (by kernel_rfl) (by kernel_rfl) (by kernel_rfl) (fun _ _ _ h => h) (Or.inl ⟨by rfl, by intro w; go_simp⟩) ?_
  simp only [Act.put, List.getElem_toArray, List.getElem_cons_succ, List.getElem_cons_zero, List.setIfInBounds_toArray, List.set_cons_zero, List.set_cons_succ]
  refine wpAny_ready (rs := [2, 6, 8]) (by kernel_rfl) (by simp) (AllReady.cons rfl (fun K hK => ?_) (AllReady.cons rfl (fun K hK => ?_) (AllReady.cons rfl (fun K hK => ?_) AllReady.nil)))
  refine step_load_agg (by rfl) 61 (.tmp 5) (by rfl) bn (netArr n M) (by rfl) Try.sizeNet _ Try.underlying61 rfl 61 (0, 0) (HNB.out _ (by first | exact ((Below.refl _ _).alloc (Nat.le_refl _) _).drew | exact (((Below.refl _ _).alloc (Nat.le_refl _) _).drew).alloc (by simp) _)) ?_
  refine hK _ _ ?_
  clear hK K
  try simp only [Act.put, List.getElem_toArray, List.getElem_cons_succ, List.getElem_cons_zero, List.setIfInBounds_toArray, List.set_cons_zero, List.set_cons_succ]
  refine wpAny_ready (rs := [6, 8]) (by kernel_rfl) (by simp) (AllReady.cons rfl (fun K hK => ?_) (AllReady.cons rfl (fun K hK => ?_) AllReady.nil))
  go_simp
  refine hK _ _ ?_
  clear hK K
  try simp only [Act.put, List.getElem_toArray, List.getElem_cons_succ, List.getElem_cons_zero, List.setIfInBounds_toArray, List.set_cons_zero, List.set_cons_succ]
  refine wpAny_take (i := 7) (v := .agg (remArr n M (fun _ => 0) n)) rfl (by kernel_rfl) (by kernel_rfl) (by kernel_rfl) (fun _ _ _ h => h) (Or.inl ⟨by rfl, by intro w; (first | rfl | (simp only [netArr, remArr]; go_simp))⟩) ?_
  simp only [Act.put, List.getElem_toArray, List.getElem_cons_succ, List.getElem_cons_zero, List.setIfInBounds_toArray, List.set_cons_zero, List.set_cons_succ]
  refine wpAny_ready (rs := [8]) (by kernel_rfl) (by simp) (AllReady.cons rfl (fun K hK => ?_) AllReady.nil)
  go_simp
  refine hK _ _ ?_
  clear hK K
  try simp only [Act.put, List.getElem_toArray, List.getElem_cons_succ, List.getElem_cons_zero, List.setIfInBounds_toArray, List.set_cons_zero, List.set_cons_succ]
  refine wpAny_ready (rs := [9]) (by kernel_rfl) (by simp) (AllReady.cons rfl (fun K hK => ?_) AllReady.nil)
  refine step_store_agg (by rfl) 83 (.tmp 3) (.tmp 11) (by rfl) (w.heap.size + 1) (remArr n M (fun _ => 0) n) (by rfl) (by rfl) Try.sizeRem 83 _ (by have h := heap_alloc_new (w.alloc (.cells (remArr 0 (fun _ => 0) (fun _ => 0) 0) 83)).drew (.cells (remArr 0 (fun _ => 0) (fun _ => 0) 0) 83); rw [show (w.alloc (.cells (remArr 0 (fun _ => 0) (fun _ => 0) 0) 83)).drew.heap.size = w.heap.size + 1 from size_alloc1 _ _] at h; exact h) (by rfl) (remArr_one _ _ _ _) ?_
  intro w3 hg3 ht3
  refine hK _ _ ?_
  clear hK K
  try simp only [Act.put, List.getElem_toArray, List.getElem_cons_succ, List.getElem_cons_zero, List.setIfInBounds_toArray, List.set_cons_zero, List.set_cons_succ]
  refine wpAny_done (by kernel_rfl) ?_ _
  rotate_left 1
  go_simp
  refine hK _ _ ?_
  clear hK K
  try simp only [Act.put, List.getElem_toArray, List.getElem_cons_succ, List.getElem_cons_zero, List.setIfInBounds_toArray, List.set_cons_zero, List.set_cons_succ]
  refine wpAny_ready (rs := [6]) (by kernel_rfl) (by simp) (AllReady.cons rfl (fun K hK => ?_) AllReady.nil)
  go_simp
  refine hK _ _ ?_
  clear hK K
  try simp only [Act.put, List.getElem_toArray, List.getElem_cons_succ, List.getElem_cons_zero, List.setIfInBounds_toArray, List.set_cons_zero, List.set_cons_succ]
  refine wpAny_take (i := 7) (v := .agg (remArr n M (fun _ => 0) n)) rfl (by kernel_rfl) (by kernel_rfl) (by kernel_rfl) (fun _ _ _ h => h) (Or.inl ⟨by rfl, by intro w; (first | rfl | (simp only [netArr, remArr]; go_simp))⟩) ?_
  simp only [Act.put, List.getElem_toArray, List.getElem_cons_succ, List.getElem_cons_zero, List.setIfInBounds_toArray, List.set_cons_zero, List.set_cons_succ]
  refine wpAny_ready (rs := [9]) (by kernel_rfl) (by simp) (AllReady.cons rfl (fun K hK => ?_) AllReady.nil)
  refine step_store_agg (by rfl) 83 (.tmp 3) (.tmp 11) (by rfl) (w.heap.size + 1) (remArr n M (fun _ => 0) n) (by rfl) (by rfl) Try.sizeRem 83 _ (by have h := heap_alloc_new (w.alloc (.cells (remArr 0 (fun _ => 0) (fun _ => 0) 0) 83)).drew (.cells (remArr 0 (fun _ => 0) (fun _ => 0) 0) 83); rw [show (w.alloc (.cells (remArr 0 (fun _ => 0) (fun _ => 0) 0) 83)).drew.heap.size = w.heap.size + 1 from size_alloc1 _ _] at h; exact h) (by rfl) (remArr_one _ _ _ _) ?_
  intro w3 hg3 ht3
  refine hK _ _ ?_
  clear hK K
  try simp only [Act.put, List.getElem_toArray, List.getElem_cons_succ, List.getElem_cons_zero, List.setIfInBounds_toArray, List.set_cons_zero, List.set_cons_succ]
  refine wpAny_done (by kernel_rfl) ?_ _
  rotate_left 1
  go_simp
  refine hK _ _ ?_
  clear hK K
  try simp only [Act.put, List.getElem_toArray, List.getElem_cons_succ, List.getElem_cons_zero, List.setIfInBounds_toArray, List.set_cons_zero, List.set_cons_succ]
  refine wpAny_ready (rs := [2, 8]) (by kernel_rfl) (by simp) (AllReady.cons rfl (fun K hK => ?_) (AllReady.cons rfl (fun K hK => ?_) AllReady.nil))
  refine step_load_agg (by rfl) 61 (.tmp 5) (by rfl) bn (netArr n M) (by rfl) Try.sizeNet _ Try.underlying61 rfl 61 (0, 0) (HNB.out _ (by first | exact ((Below.refl _ _).alloc (Nat.le_refl _) _).drew | exact (((Below.refl _ _).alloc (Nat.le_refl _) _).drew).alloc (by simp) _)) ?_
  refine hK _ _ ?_
  clear hK K
  try simp only [Act.put, List.getElem_toArray, List.getElem_cons_succ, List.getElem_cons_zero, List.setIfInBounds_toArray, List.set_cons_zero, List.set_cons_succ]
  refine wpAny_take (i := 7) (v := .agg (remArr n M (fun _ => 0) n)) rfl (by kernel_rfl) (by kernel_rfl) (by kernel_rfl) (fun _ _ _ h => h) (Or.inl ⟨by rfl, by intro w; (first | rfl | (simp only [netArr, remArr]; go_simp))⟩) ?_
  simp only [Act.put, List.getElem_toArray, List.getElem_cons_succ, List.getElem_cons_zero, List.setIfInBounds_toArray, List.set_cons_zero, List.set_cons_succ]
  refine wpAny_ready (rs := [8]) (by kernel_rfl) (by simp) (AllReady.cons rfl (fun K hK => ?_) AllReady.nil)
  go_simp
  refine hK _ _ ?_
  clear hK K
  try simp only [Act.put, List.getElem_toArray, List.getElem_cons_succ, List.getElem_cons_zero, List.setIfInBounds_toArray, List.set_cons_zero, List.set_cons_succ]
  refine wpAny_ready (rs := [9]) (by kernel_rfl) (by simp) (AllReady.cons rfl (fun K hK => ?_) AllReady.nil)
  refine step_store_agg (by rfl) 83 (.tmp 3) (.tmp 11) (by rfl) (w.heap.size + 1) (remArr n M (fun _ => 0) n) (by rfl) (by rfl) Try.sizeRem 83 _ (by have h := heap_alloc_new (w.alloc (.cells (remArr 0 (fun _ => 0) (fun _ => 0) 0) 83)).drew (.cells (remArr 0 (fun _ => 0) (fun _ => 0) 0) 83); rw [show (w.alloc (.cells (remArr 0 (fun _ => 0) (fun _ => 0) 0) 83)).drew.heap.size = w.heap.size + 1 from size_alloc1 _ _] at h; exact h) (by rfl) (remArr_one _ _ _ _) ?_
  intro w3 hg3 ht3
  refine hK _ _ ?_
  clear hK K
  try simp only [Act.put, List.getElem_toArray, List.getElem_cons_succ, List.getElem_cons_zero, List.setIfInBounds_toArray, List.set_cons_zero, List.set_cons_succ]
  refine wpAny_done (by kernel_rfl) ?_ _
  rotate_left 1
  go_simp
  refine hK _ _ ?_
  clear hK K
  try simp only [Act.put, List.getElem_toArray, List.getElem_cons_succ, List.getElem_cons_zero, List.setIfInBounds_toArray, List.set_cons_zero, List.set_cons_succ]
  refine wpAny_ready (rs := [2]) (by kernel_rfl) (by simp) (AllReady.cons rfl (fun K hK => ?_) AllReady.nil)
  refine step_load_agg (by rfl) 61 (.tmp 5) (by rfl) bn (netArr n M) (by rfl) Try.sizeNet _ Try.underlying61 rfl 61 (0, 0) (HNB.out _ (by first | exact ((Below.refl _ _).alloc (Nat.le_refl _) _).drew | exact (((Below.refl _ _).alloc (Nat.le_refl _) _).drew).alloc (by simp) _)) ?_
  refine hK _ _ ?_
  clear hK K
  try simp only [Act.put, List.getElem_toArray, List.getElem_cons_succ, List.getElem_cons_zero, List.setIfInBounds_toArray, List.set_cons_zero, List.set_cons_succ]
  refine wpAny_take (i := 7) (v := .agg (remArr n M (fun _ => 0) n)) rfl (by kernel_rfl) (by kernel_rfl) (by kernel_rfl) (fun _ _ _ h => h) (Or.inl ⟨by rfl, by intro w; (first | rfl | (simp only [netArr, remArr]; go_simp))⟩) ?_
  simp only [Act.put, List.getElem_toArray, List.getElem_cons_succ, List.getElem_cons_zero, List.setIfInBounds_toArray, List.set_cons_zero, List.set_cons_succ]
  refine wpAny_ready (rs := [9]) (by kernel_rfl) (by simp) (AllReady.cons rfl (fun K hK => ?_) AllReady.nil)
  refine step_store_agg (by rfl) 83 (.tmp 3) (.tmp 11) (by rfl) (w.heap.size + 1) (remArr n M (fun _ => 0) n) (by rfl) (by rfl) Try.sizeRem 83 _ (by have h := heap_alloc_new (w.alloc (.cells (remArr 0 (fun _ => 0) (fun _ => 0) 0) 83)).drew (.cells (remArr 0 (fun _ => 0) (fun _ => 0) 0) 83); rw [show (w.alloc (.cells (remArr 0 (fun _ => 0) (fun _ => 0) 0) 83)).drew.heap.size = w.heap.size + 1 from size_alloc1 _ _] at h; exact h) (by rfl) (remArr_one _ _ _ _) ?_
  intro w3 hg3 ht3
  refine hK _ _ ?_
  clear hK K
  try simp only [Act.put, List.getElem_toArray, List.getElem_cons_succ, List.getElem_cons_zero, List.setIfInBounds_toArray, List.set_cons_zero, List.set_cons_succ]
  refine wpAny_done (by kernel_rfl) ?_ _
  rotate_left 1
  go_simp
  refine hK _ _ ?_
  clear hK K
  try simp only [Act.put, List.getElem_toArray, List.getElem_cons_succ, List.getElem_cons_zero, List.setIfInBounds_toArray, List.set_cons_zero, List.set_cons_succ]
  refine wpAny_ready (rs := [2, 6]) (by kernel_rfl) (by simp) (AllReady.cons rfl (fun K hK => ?_) (AllReady.cons rfl (fun K hK => ?_) AllReady.nil))
  refine step_load_agg (by rfl) 61 (.tmp 5) (by rfl) bn (netArr n M) (by rfl) Try.sizeNet _ Try.underlying61 rfl 61 (0, 0) (HNB.out _ (by first | exact ((Below.refl _ _).alloc (Nat.le_refl _) _).drew | exact (((Below.refl _ _).alloc (Nat.le_refl _) _).drew).alloc (by simp) _)) ?_
  refine hK _ _ ?_
  clear hK K
  try simp only [Act.put, List.getElem_toArray, List.getElem_cons_succ, List.getElem_cons_zero, List.setIfInBounds_toArray, List.set_cons_zero, List.set_cons_succ]
  refine wpAny_ready (rs := [6]) (by kernel_rfl) (by simp) (AllReady.cons rfl (fun K hK => ?_) AllReady.nil)
  go_simp
  refine hK _ _ ?_
  clear hK K
  try simp only [Act.put, List.getElem_toArray, List.getElem_cons_succ, List.getElem_cons_zero, List.setIfInBounds_toArray, List.set_cons_zero, List.set_cons_succ]
  refine wpAny_take (i := 7) (v := .agg (remArr n M (fun _ => 0) n)) rfl (by kernel_rfl) (by kernel_rfl) (by kernel_rfl) (fun _ _ _ h => h) (Or.inl ⟨by rfl, by intro w; (first | rfl | (simp only [netArr, remArr]; go_simp))⟩) ?_
  simp only [Act.put, List.getElem_toArray, List.getElem_cons_succ, List.getElem_cons_zero, List.setIfInBounds_toArray, List.set_cons_zero, List.set_cons_succ]
  refine wpAny_ready (rs := [9]) (by kernel_rfl) (by simp) (AllReady.cons rfl (fun K hK => ?_) AllReady.nil)
  refine step_store_agg (by rfl) 83 (.tmp 3) (.tmp 11) (by rfl) (w.heap.size + 1) (remArr n M (fun _ => 0) n) (by rfl) (by rfl) Try.sizeRem 83 _ (by have h := heap_alloc_new (w.alloc (.cells (remArr 0 (fun _ => 0) (fun _ => 0) 0) 83)).drew (.cells (remArr 0 (fun _ => 0) (fun _ => 0) 0) 83); rw [show (w.alloc (.cells (remArr 0 (fun _ => 0) (fun _ => 0) 0) 83)).drew.heap.size = w.heap.size + 1 from size_alloc1 _ _] at h; exact h) (by rfl) (remArr_one _ _ _ _) ?_
  intro w3 hg3 ht3
  refine hK _ _ ?_
  clear hK K
  try simp only [Act.put, List.getElem_toArray, List.getElem_cons_succ, List.getElem_cons_zero, List.setIfInBounds_toArray, List.set_cons_zero, List.set_cons_succ]
  refine wpAny_done (by kernel_rfl) ?_ _
  rotate_left 1
  go_simp
  refine hK _ _ ?_
  clear hK K
  try simp only [Act.put, List.getElem_toArray, List.getElem_cons_succ, List.getElem_cons_zero, List.setIfInBounds_toArray, List.set_cons_zero, List.set_cons_succ]
  refine wpAny_ready (rs := [2]) (by kernel_rfl) (by simp) (AllReady.cons rfl (fun K hK => ?_) AllReady.nil)
  refine step_load_agg (by rfl) 61 (.tmp 5) (by rfl) bn (netArr n M) (by rfl) Try.sizeNet _ Try.underlying61 rfl 61 (0, 0) (HNB.out _ (by first | exact ((Below.refl _ _).alloc (Nat.le_refl _) _).drew | exact (((Below.refl _ _).alloc (Nat.le_refl _) _).drew).alloc (by simp) _)) ?_
  refine hK _ _ ?_
  clear hK K
  try simp only [Act.put, List.getElem_toArray, List.getElem_cons_succ, List.getElem_cons_zero, List.setIfInBounds_toArray, List.set_cons_zero, List.set_cons_succ]
  refine wpAny_take (i := 7) (v := .agg (remArr n M (fun _ => 0) n)) rfl (by kernel_rfl) (by kernel_rfl) (by kernel_rfl) (fun _ _ _ h => h) (Or.inl ⟨by rfl, by intro w; (first | rfl | (simp only [netArr, remArr]; go_simp))⟩) ?_
  simp only [Act.put, List.getElem_toArray, List.getElem_cons_succ, List.getElem_cons_zero, List.setIfInBounds_toArray, List.set_cons_zero, List.set_cons_succ]
  refine wpAny_ready (rs := [9]) (by kernel_rfl) (by simp) (AllReady.cons rfl (fun K hK => ?_) AllReady.nil)
  refine step_store_agg (by rfl) 83 (.tmp 3) (.tmp 11) (by rfl) (w.heap.size + 1) (remArr n M (fun _ => 0) n) (by rfl) (by rfl) Try.sizeRem 83 _ (by have h := heap_alloc_new (w.alloc (.cells (remArr 0 (fun _ => 0) (fun _ => 0) 0) 83)).drew (.cells (remArr 0 (fun _ => 0) (fun _ => 0) 0) 83); rw [show (w.alloc (.cells (remArr 0 (fun _ => 0) (fun _ => 0) 0) 83)).drew.heap.size = w.heap.size + 1 from size_alloc1 _ _] at h; exact h) (by rfl) (remArr_one _ _ _ _) ?_
  intro w3 hg3 ht3
  refine hK _ _ ?_
  clear hK K
  try simp only [Act.put, List.getElem_toArray, List.getElem_cons_succ, List.getElem_cons_zero, List.setIfInBounds_toArray, List.set_cons_zero, List.set_cons_succ]
  refine wpAny_done (by kernel_rfl) ?_ _
  rotate_left 1
  all_goals (
    have HG3 : Hid (w3.heap[w.heap.size + 1]? = some (.cells ((List.range 34).map (remF n M (fun _ => 0) n)).toArray 83 (0, 0))) := rowIs_list (remArr_row hg3)
    have HG2 : Hid (w3.heap[w.heap.size]? = some (.cells (remArr 0 (fun _ => 0) (fun _ => 0) 0) 83 (0, 0))) := by
      refine (ht3.other w.heap.size (by simp; omega) (Or.inl (by omega))).trans ?_
      show ((w.alloc (.cells (remArr 0 (fun _ => 0) (fun _ => 0) 0) 83)).alloc (.cells (remArr 0 (fun _ => 0) (fun _ => 0) 0) 83)).heap[w.heap.size]? = _
      exact heap_alloc2_old w _ _
    have HB3 : Hid (Below w.heap.size w w3) := by
      refine Below.trans ?_ ((ht3.below (by simp)).mono (by omega))
      exact (((Below.refl _ _).alloc (Nat.le_refl _) _).drew).alloc (by simp) _
    have HS3 : Hid (w.heap.size + 1 + 1 ≤ w3.heap.size) := by
      have := ht3.size
      simp at this
      exact this
    have k3 : w3.cell? ⟨bn, 0, none⟩ = some (.int .i64 (n : Int)) := (H.out.keep HB3.out).at.1
    clear hg3 ht3
    go_wp2_with fail
    refine wp_region_any (by kernel_rfl) ?_
    change wpAny _ _ _ _ _ _ _ (World.drew _)
    refine wpAny_take (i := 0) (v := .pointer (some ⟨w.heap.size + 1, 17, none⟩)) rfl (by kernel_rfl) (by kernel_rfl) (by kernel_rfl) (fun _ _ _ h => h) (Or.inl ⟨by rfl, by intro w; go_simp⟩) ?_
    simp only [Act.put, List.getElem_toArray, List.getElem_cons_succ, List.getElem_cons_zero, List.setIfInBounds_toArray, List.set_cons_zero, List.set_cons_succ]
    refine wpAny_take (i := 1) (v := .slice (some ⟨w.heap.size + 1, 17, none⟩) 16 16) rfl (by kernel_rfl) (by kernel_rfl) (by kernel_rfl) (fun _ _ _ h => h) (Or.inl ⟨by rfl, by intro w; go_simp⟩) ?_
    simp only [Act.put, List.getElem_toArray, List.getElem_cons_succ, List.getElem_cons_zero, List.setIfInBounds_toArray, List.set_cons_zero, List.set_cons_succ]
    refine wpAny_take (i := 2) (v := .pointer (some ⟨bn, 0, none⟩)) rfl (by kernel_rfl) (by kernel_rfl) (by kernel_rfl) (fun _ _ _ h => h) (Or.inl ⟨by rfl, by intro w; go_simp⟩) ?_
    simp only [Act.put, List.getElem_toArray, List.getElem_cons_succ, List.getElem_cons_zero, List.setIfInBounds_toArray, List.set_cons_zero, List.set_cons_succ]
    refine wpAny_take (i := 3) (v := .pointer (some ⟨bn, 0, none⟩)) rfl (by kernel_rfl) (by kernel_rfl) (by kernel_rfl) (fun _ _ _ h => h) (Or.inl ⟨by rfl, by intro w; go_simp⟩) ?_
    simp only [Act.put, List.getElem_toArray, List.getElem_cons_succ, List.getElem_cons_zero, List.setIfInBounds_toArray, List.set_cons_zero, List.set_cons_succ]
    refine wpAny_take (i := 4) (v := .pointer (some ⟨bn, 0, none⟩)) rfl (by kernel_rfl) (by kernel_rfl) (by kernel_rfl) (fun _ _ _ h => h) (Or.inl ⟨by rfl, by intro w; go_simp⟩) ?_
    simp only [Act.put, List.getElem_toArray, List.getElem_cons_succ, List.getElem_cons_zero, List.setIfInBounds_toArray, List.set_cons_zero, List.set_cons_succ]
    refine wpAny_ready (rs := [5]) (by kernel_rfl) (by simp) (AllReady.cons rfl (fun K hK => ?_) AllReady.nil)
    go_simp
    refine hK _ _ ?_
    clear hK K
    refine wpAny_ready (rs := [6]) (by kernel_rfl) (by simp) (AllReady.cons rfl (fun K hK => ?_) AllReady.nil)
    go_simp
    refine (wholeMask_any n _ hn.2).mono ?_
    rintro e wx ⟨rfl, hwx⟩
    have HBX : Hid (Below w3.heap.size w3 wx) := by rw [← hwx]; exact (Below.refl _ _).drew
    have HGX : Hid (wx.heap[w.heap.size + 1]? = w3.heap[w.heap.size + 1]? ∧ wx.heap.size = w3.heap.size) := by rw [← hwx]; exact ⟨rfl, rfl⟩
    clear hwx
    refine hK _ _ ?_
    clear hK K
    refine wpAny_ready (rs := [7]) (by kernel_rfl) (by simp) (AllReady.cons rfl (fun K hK => ?_) AllReady.nil)
    go_simp
    refine (list_any (2 ^ n - 1) _ (whole_lt hn.2)).mono ?_
    rintro e w5 ⟨n5, a5, c5, rfl, ho5, hb5⟩
    rw [listM_whole hn.2] at ho5
    have hn5 : n5 = n := by
      obtain ⟨a3, c3, e3⟩ := ho5.row.slice
      simp only [Value.slice.injEq, allL_len] at e3
      exact e3.2.1
    subst hn5
    have HO5 := Lib.hid ho5
    have HB5 : Hid (Below w3.heap.size w3 w5) := HBX.out.trans (hb5.mono (by rw [HGX.out.2]; exact Nat.le_refl _))
    have HG5 : Hid (w5.heap[w.heap.size + 1]? = some (.cells ((List.range 34).map (remF n5 M (fun _ => 0) n5)).toArray 83 (0, 0))) := by
      show _ = _
      rw [HB5.out.block _ (by have := HS3.out; omega)]; exact HG3.out
    have HG25 : Hid (w5.heap[w.heap.size]? = some (.cells (remArr 0 (fun _ => 0) (fun _ => 0) 0) 83 (0, 0))) := by
      show _ = _
      rw [HB5.out.block _ (by have := HS3.out; omega)]; exact HG2.out
    clear ho5 hb5
    refine hK _ _ ?_
    clear hK K
    obtain ⟨cur, hcur⟩ : ∃ cur, cur = (List.range 34).map (remF n5 M (fun _ => 0) n5) := ⟨_, rfl⟩
    have hcl : cur.length = 34 := by rw [hcur]; simp
    have HEND : Hid (∀ W' : World, W'.heap[w.heap.size + 1]? = some (.cells (splice cur 17 (allC n5)).toArray 83 (0, 0)) → W'.heap[w.heap.size + 1]? = some (.cells (remArr n5 M (allF n5) n5) 83 (0, 0))) := fun W' hw => by rw [hcur] at hw; exact remArr_of (all_row hn.2 hw)
    rw [← hcur] at HG5
    have HSRC : Hid (0 < (allC n5).length → ∃ ad, a5 = some ad ∧ ∀ j v, (allC n5)[j]? = some v → w5.cell? (ad.add j) = some v) := fun h0 => all_src HO5.out (by rw [allC_len] at h0; exact h0)
    have HCN : Hid ((allC n5).length = Nat.min n5 16) := by show _ = _; rw [allC_len]; exact (Nat.min_eq_left hn.2).symm
    have HCF : Hid (17 + (allC n5).length ≤ cur.length) := by show _ ≤ _; rw [allC_len, hcl]; omega
    have HCO := Lib.hid (allC_one n5)
    obtain ⟨cs, hcs⟩ : ∃ cs, cs = allC n5 := ⟨_, rfl⟩
    rw [← hcs] at HEND HSRC HCN HCF HCO
    clear hcs hcur hcl k3 k0
    refine wpAny_ready (rs := [8]) (by kernel_rfl) (by simp) (AllReady.cons rfl (fun K hK => ?_) AllReady.nil)
    refine step_copy_at (by rfl) (.tmp 13) (.tmp 19) 33 33 (by rfl) 2 Try.underlying33 Try.sizeI64 _ _ _ _ _ _ (by rfl) (by rfl) (w.heap.size + 1) 17 cur 83 HG5.out cs HCN.out (fun h0 => ⟨rfl, HSRC.out h0⟩) HCF.out HCO.out ?_
    intro w6 hg6 ht6
    have HG6 := Lib.hid (HEND.out w6 hg6)
    have HG26 : Hid (w6.heap[w.heap.size]? = some (.cells (remArr 0 (fun _ => 0) (fun _ => 0) 0) 83 (0, 0))) := by
      show _ = _
      rw [ht6.other _ (by have := HS3.out; have := HB5.out.size; omega) (Or.inl (by omega))]; exact HG25.out
    have HB6 : Hid (Below w.heap.size w w6) := (HB3.out.trans (HB5.out.mono (by have := HS3.out; omega))).trans ((ht6.below (by have := HS3.out; have := HB5.out.size; omega)).mono (by omega))
    clear hg6 ht6
    refine hK _ _ ?_
    clear hK K
    refine wpAny_done (by kernel_rfl) ?_ _
    go_wp2_with (first | (refine wpList_load_row rfl 83 (.tmp 3) rfl (w.heap.size + 1) rfl 83 (remArr n5 M (allF n5) n5) (0, 0) _ HG6.out Try.underlying83 rfl Try.sizeRem ?_) | (refine wpList_store_row rfl 83 (.tmp 2) (.tmp 21) rfl w.heap.size (remArr n5 M (allF n5) n5) rfl rfl 83 (remArr 0 (fun _ => 0) (fun _ => 0) 0) HG26.out Try.sizeRem rfl (remArr_one _ _ _ _) ?_))
    refine bodyPost_ret (v := .agg (remArr n5 M (allF n5) n5)) (results_cell_row Try.results61 _ _ w.heap.size 83 _ (0, 0) _ rfl (setRow_heap w6 w.heap.size _ _ 83 _ HG26.out) Try.underlying83 rfl Try.sizeRem) rfl ⟨allF n5, rfl, fun i hi => if_pos hi, ?_⟩
    exact HB6.out.trans ⟨rfl, rfl, rfl, by simp [World.setRow], fun k hk => setRow_other w6 w.heap.size k _ (by omega)⟩)

end Go.Proofs.Ytohjfcfcopbmoaa
