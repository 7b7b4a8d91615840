/- The texts ER5, ER6, joined. -/
import Derived.Test.YtohjfcfcopbmoaaDoorQER1
import Derived.Test.YtohjfcfcopbmoaaDoorQB4
import Derived.Test.YtohjfcfcopbmoaaDoorQEL1
import Derived.Test.YtohjfcfcopbmoaaDoorQN3

/- Walks: what is left of a net, at first. -/
namespace Go.Proofs.YtohjfcfcopbmoaaDoor
open Go.RowKit

/-- The cells of what is left, as an array. -/
def remArr (n : Nat) (M : Nat → Nat) (lf : Nat → Int) (m : Nat) : Array Value :=
  #[.int .i64 (n : Int), .int .u32 (M 0 : Int), .int .u32 (M 1 : Int), .int .u32 (M 2 : Int), .int .u32 (M 3 : Int), .int .u32 (M 4 : Int), .int .u32 (M 5 : Int), .int .u32 (M 6 : Int), .int .u32 (M 7 : Int), .int .u32 (M 8 : Int), .int .u32 (M 9 : Int), .int .u32 (M 10 : Int), .int .u32 (M 11 : Int), .int .u32 (M 12 : Int), .int .u32 (M 13 : Int), .int .u32 (M 14 : Int), .int .u32 (M 15 : Int),
    .int .i64 (lf 0), .int .i64 (lf 1), .int .i64 (lf 2), .int .i64 (lf 3), .int .i64 (lf 4), .int .i64 (lf 5), .int .i64 (lf 6), .int .i64 (lf 7), .int .i64 (lf 8), .int .i64 (lf 9), .int .i64 (lf 10), .int .i64 (lf 11), .int .i64 (lf 12), .int .i64 (lf 13), .int .i64 (lf 14), .int .i64 (lf 15), .int .i64 (m : Int)]
theorem remArr_size (n : Nat) (M : Nat → Nat) (lf : Nat → Int) (m : Nat) : (remArr n M lf m).size = 34 := rfl
theorem remArr_get (n : Nat) (M : Nat → Nat) (lf : Nat → Int) (m : Nat) {i : Nat} (h : i < 34) : (remArr n M lf m)[i]? = some (remF n M lf m i) := by
  have h2 : i = 0 ∨ i = 1 ∨ i = 2 ∨ i = 3 ∨ i = 4 ∨ i = 5 ∨ i = 6 ∨ i = 7 ∨ i = 8 ∨ i = 9 ∨ i = 10 ∨ i = 11 ∨ i = 12 ∨ i = 13 ∨ i = 14 ∨ i = 15 ∨ i = 16 ∨ i = 17 ∨ i = 18 ∨ i = 19 ∨ i = 20 ∨ i = 21 ∨ i = 22 ∨ i = 23 ∨ i = 24 ∨ i = 25 ∨ i = 26 ∨ i = 27 ∨ i = 28 ∨ i = 29 ∨ i = 30 ∨ i = 31 ∨ i = 32 ∨ i = 33 := by omega
  rcases h2 with rfl | rfl | rfl | rfl | rfl | rfl | rfl | rfl | rfl | rfl | rfl | rfl | rfl | rfl | rfl | rfl | rfl | rfl | rfl | rfl | rfl | rfl | rfl | rfl | rfl | rfl | rfl | rfl | rfl | rfl | rfl | rfl | rfl | rfl <;> rfl
theorem remArr_one (n : Nat) (M : Nat → Nat) (lf : Nat → Int) (m : Nat) : (remArr n M lf m).all (·.oneCell') = true := by simp [remArr, Value.oneCell']
theorem step_load_agg {P : Program} {ops : Array Oper} {o : Oper} {a : Act} {w : World} {K : Act → World → Prop} {Q : Exit → Act → World → Prop} {E : Prop} (hgd : o.guard = none) (ty : TypeId) (x : Operand) (ho : o.op = .load ty x)
    (g : Nat) (cs : Array Value) (hx : a.eval x = .pointer (some ⟨g, 0, none⟩)) (hi : (P.info? ty).map (·.size) = some cs.size) (d : TypeDesc) (hu : P.underlying ty = some d) (hd : (match d with | .struct _ | .array _ _ => true | _ => false) = true)
    (t : TypeId) (fr : Nat × Nat) (hg : w.heap[g]? = some (.cells cs t fr)) (h : K (a.put o.dst (.agg cs)) w) : if Region.wanted o (yielded ops a.tmps) = true then Oper.wp P o a w K Q else E := by
  have hw : Region.wanted o (yielded ops a.tmps) = true := by simp [Region.wanted, hgd]
  rw [if_pos hw]
  exact wp_load_row ty x ho g hx t cs fr d hg hu hd hi h
theorem step_store_agg {P : Program} {ops : Array Oper} {o : Oper} {a : Act} {w : World} {K : Act → World → Prop} {Q : Exit → Act → World → Prop} {E : Prop} (hgd : o.guard = none) (ty : TypeId) (x y : Operand) (ho : o.op = .store ty x y)
    (g : Nat) (cs : Array Value) (hx : a.eval x = .pointer (some ⟨g, 0, none⟩)) (hy : a.eval y = .agg cs) (hi : (P.info? ty).map (·.size) = some cs.size)
    (t : TypeId) (old : Array Value) (hg : w.heap[g]? = some (.cells old t (0, 0))) (hold : old.size = cs.size) (h1 : cs.all (·.oneCell') = true)
    (h : ∀ w', w'.heap[g]? = some (.cells cs t (0, 0)) → Touched g (g + 1) w w' → K (a.put o.dst undef) w') : if Region.wanted o (yielded ops a.tmps) = true then Oper.wp P o a w K Q else E := by
  have hw : Region.wanted o (yielded ops a.tmps) = true := by simp [Region.wanted, hgd]
  rw [if_pos hw]
  exact wp_store_row ty x y ho g cs hx hy t old hg hi hold h1 (h _ (setRow_heap w g _ _ t _ hg) ⟨rfl, rfl, rfl, by simp [World.setRow], fun k _ hk => setRow_other w g k _ (by omega)⟩)

theorem step_copy_at {P : Program} {ops : Array Oper} {o : Oper} {a : Act} {w : World} {K : Act → World → Prop} {Q : Exit → Act → World → Prop} {E : Prop} (hgd : o.guard = none) (d s : Operand) (dT sT : TypeId)
    (ho : o.op = .call { callee := .builtin .copy, args := #[d, s], argTypes := #[dT, sT] }) (elem : TypeId) (hu : P.underlying dT = some (.slice elem)) (hsz : (P.info? elem).map (·.size) = some 1)
    (dp sp : Option Addr) (dLen dCap sLen sCap : Nat) (hd : a.eval d = .slice dp dLen dCap) (hs : a.eval s = .slice sp sLen sCap)
    (g off : Nat) (cur : List Value) (t : TypeId) (hg : w.heap[g]? = some (.cells cur.toArray t (0, 0))) (cs : List Value) (hn : cs.length = Nat.min sLen dLen)
    (hpos : 0 < cs.length → dp = some ⟨g, off, none⟩ ∧ ∃ ad, sp = some ad ∧ ∀ j v, cs[j]? = some v → w.cell? (ad.add j) = some v)
    (hfit : off + cs.length ≤ cur.length) (h1 : ∀ v ∈ cs, v.oneCell' = true)
    (h : ∀ w', Hid (w'.heap[g]? = some (.cells (splice cur off cs).toArray t (0, 0))) → Touched g (g + 1) w w' → K (a.put o.dst (goInt cs.length)) w') :
    if Region.wanted o (yielded ops a.tmps) = true then Oper.wp P o a w K Q else E := by
  have hw : Region.wanted o (yielded ops a.tmps) = true := by simp [Region.wanted, hgd]
  rw [if_pos hw]
  by_cases h0 : cs.length = 0
  · obtain rfl : cs = [] := List.eq_nil_of_length_eq_zero h0
    have hrun := run_copy_none (P := P) w dT sT o.type elem dp sp dLen dCap sLen sCap hu hsz (by simpa using hn.symm)
    unfold Oper.wp
    simp [execOp, ho, resolve, invoke, builtin, hd, hs, hrun, Result.andThen]
    exact h w (show _ = _ by simpa [splice] using hg) (Touched.refl _ _ _)
  · obtain ⟨rfl, ad, rfl, hsrc⟩ := hpos (by omega)
    have hrun := run_copy_row (P := P) w dT sT o.type elem g off dLen dCap ad sLen sCap cur.toArray t cs hu hsz hg hn hsrc (by simpa using hfit) h1
    unfold Oper.wp
    simp [execOp, ho, resolve, invoke, builtin, hd, hs, hrun, Result.andThen]
    exact h _ (show _ = _ by simpa [splice] using setRow_heap w g _ _ t _ hg) ⟨rfl, rfl, rfl, by simp [World.setRow], fun k _ hk => setRow_other w g k _ (by omega)⟩
/-- The list of all that are left, at first. -/
def allF (n i : Nat) : Int := if i < n then (i : Int) else 0
def allC (n : Nat) : List Value := (List.range n).map (fun i : Nat => Value.int .i64 (i : Int))
theorem allC_len (n : Nat) : (allC n).length = n := by simp [allC]
theorem allC_one (n : Nat) : ∀ v ∈ allC n, v.oneCell' = true := by
  intro v hv
  simp only [allC, List.mem_map] at hv
  obtain ⟨i, _, rfl⟩ := hv
  rfl
theorem listM_whole {n : Nat} (hn : n ≤ 16) : listM (2 ^ n - 1) = allL n := by
  refine sets_eq (listM_set _) (SetP.mk (allL_pair n) (fun x hx => by obtain ⟨i, hi, rfl⟩ := (allL_mem _ _).1 hx; omega)) (fun z => ?_)
  rw [listM_mem, allL_mem]
  constructor
  · rintro ⟨i, hi, hb, rfl⟩
    rw [Nat.testBit_two_pow_sub_one, decide_eq_true_iff] at hb
    exact ⟨i, hb, rfl⟩
  · rintro ⟨i, hi, rfl⟩
    exact ⟨i, by omega, by rw [Nat.testBit_two_pow_sub_one, decide_eq_true_iff]; exact hi, rfl⟩
theorem all_src {w : World} {n B : Nat} {a : Option Addr} {c : Nat} (h : OwnRow 2 w B (.slice a n c) (allL n)) (h0 : 0 < n) : ∃ ad, a = some ad ∧ ∀ j v, (allC n)[j]? = some v → w.cell? (ad.add j) = some v := by
  obtain ⟨b, o, c', e, _, _, hc⟩ := h.row.pos (by rw [allL_len]; exact h0)
  simp only [Value.slice.injEq] at e
  refine ⟨⟨b, o, none⟩, e.1, fun j v hj => ?_⟩
  have hjl : j < n := by
    rcases Nat.lt_or_ge j n with h1 | h1
    · exact h1
    · rw [List.getElem?_eq_none (by rw [allC_len]; exact h1)] at hj; cases hj
  have e2 : v = .int .i64 (j : Int) := by
    unfold allC at hj
    rw [List.getElem?_map, List.getElem?_range hjl] at hj
    exact (Option.some.inj hj).symm
  have h3 := hc j (by rw [allL_len]; exact hjl)
  have h4 : nth (allL n) j = (j : Int) := by simp [nth, allL, hjl]
  rw [h4] at h3
  rw [e2, ← h3]
  unfold Addr.add
  split
  · rename_i e0; subst e0; rfl
  · rfl

end Go.Proofs.YtohjfcfcopbmoaaDoor

/- Walks: the net of an ordered graph; the later neighbours, as masks. -/
namespace Go.Proofs.YtohjfcfcopbmoaaDoor
open Go.RowKit

/-- One more has gone: the list of those that are left. -/
theorem remL_pair (g : Nat → Bool) (n : Nat) : (remL g n).Pairwise (· < ·) := (allL_pair n).sublist List.filter_sublist
theorem remL_nodup (g : Nat → Bool) (n : Nat) : (remL g n).Nodup := by
  rw [List.nodup_iff_pairwise_ne]
  exact (remL_pair g n).imp (fun h => by omega)
theorem remL_len (g : Nat → Bool) (n : Nat) : (remL g n).length ≤ n := by
  have := List.length_filter_le (fun x : Int => !g x.toNat) (allL n)
  rw [allL_len] at this
  exact this
theorem remL_i64 (g : Nat → Bool) {n : Nat} (hn : n ≤ 16) : ∀ x ∈ remL g n, I64 x := by
  intro x hx
  obtain ⟨v, hv, _, rfl⟩ := remL_mem.1 hx
  unfold I64; omega
theorem remL_congr {g g' : Nat → Bool} {n : Nat} (h : ∀ v, v < n → g v = g' v) : remL g n = remL g' n := by
  unfold remL
  refine List.filter_congr (fun x hx => ?_)
  obtain ⟨v, hv, rfl⟩ := (allL_mem _ _).1 hx
  rw [Int.toNat_natCast, h v hv]
theorem remL_all (n : Nat) : remL (fun v => hasB [] (v : Int)) n = allL n := by
  unfold remL
  rw [List.filter_eq_self]
  intro x _
  show (!hasB [] _) = true
  rw [hasB_nil]; rfl
theorem remL_off {ys : List Int} {n v : Nat} (hv : v < n) (hn : (v : Int) ∉ ys) :
    ∃ k0, k0 < (remL (fun i => hasB ys (i : Int)) n).length ∧ nth (remL (fun i => hasB ys (i : Int)) n) k0 = (v : Int) ∧ (∀ j, j < k0 → nth (remL (fun i => hasB ys (i : Int)) n) j ≠ (v : Int)) ∧
      offL (remL (fun i => hasB ys (i : Int)) n) k0 = remL (fun i => hasB (ys ++ [(v : Int)]) (i : Int)) n := by
  obtain ⟨zs, hz⟩ : ∃ zs, zs = remL (fun i => hasB ys (i : Int)) n := ⟨_, rfl⟩
  have hm : (v : Int) ∈ zs := by rw [hz]; exact remL_mem.2 ⟨v, hv, hasB_false.2 hn, rfl⟩
  have hnd : zs.Nodup := by rw [hz]; exact remL_nodup _ _
  have hl := List.idxOf_lt_length_of_mem hm
  have he : nth zs (zs.idxOf (v : Int)) = (v : Int) := by rw [nth_eq hl]; exact List.getElem_idxOf hl
  rw [← hz]
  refine ⟨zs.idxOf (v : Int), hl, he, fun j hj e => ?_, ?_⟩
  · have h1 := List.Nodup.idxOf_getElem hnd j (by omega)
    rw [nth_eq (by omega)] at e
    rw [e] at h1
    omega
  · have e1 : offL zs (zs.idxOf (v : Int)) = zs.filter (fun x => x != (v : Int)) := by
      unfold offL
      rw [← List.eraseIdx_eq_take_drop_succ, ← List.erase_eq_eraseIdx_of_idxOf rfl, hnd.erase_eq_filter]
    rw [e1, hz]
    unfold remL
    rw [List.filter_filter]
    refine List.filter_congr (fun x hx => ?_)
    obtain ⟨u, hu, rfl⟩ := (allL_mem _ _).1 hx
    rw [Int.toNat_natCast]
    show ((u : Int) != (v : Int) && !hasB ys (u : Int)) = !hasB (ys ++ [(v : Int)]) (u : Int)
    rw [hasB_snoc]
    have : ((u : Int) != (v : Int)) = !((u : Int) == (v : Int)) := rfl
    rw [this]
    cases hasB ys (u : Int) <;> cases ((u : Int) == (v : Int)) <;> rfl
theorem web_cut (A : Nat → Nat → Bool) {ys : List Int} {v : Nat} (hv : (v : Int) ∉ ys) : cutA (knitA (webX A ys) v) v = webX A (ys ++ [(v : Int)]) := by
  funext i j
  rw [webX_snoc A hv]; rfl
theorem webX_nil (A : Nat → Nat → Bool) : webX A [] = A := by
  funext i j
  unfold webX
  rw [hasB_nil, hasB_nil, fillX_nil]; simp

/-- What orderedNet hands back. -/
def ordN (L : List (List Int)) (xs : List Int) : Nat := if orderB L xs = true then L.length else 0
def ordM (L : List (List Int)) (xs : List Int) (i : Nat) : Nat := if orderB L xs = true then rowM L i else 0
def GaveOrd (w : World) (L : List (List Int)) (xs : List Int) (e : Ending) (w' : World) : Prop :=
  e = .returned (.tuple #[.agg (netArr (ordN L xs) (ordM L xs)), .bool (orderB L xs)]) ∧ Below w.heap.size w w'

end Go.Proofs.YtohjfcfcopbmoaaDoor
