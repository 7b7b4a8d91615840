/- The texts ER1, ER2, ER3, ER4, joined. -/
import Derived.Test.YtohjfcfcopbmoaaDoorQEO1
import Derived.Test.YtohjfcfcopbmoaaDoorQG1
import Derived.Laws.CopyOwn
import Derived.Deep.RegionLaw
import Derived.Test.YtohjfcfcopbmoaaDoorQEL1
import Derived.Test.YtohjfcfcopbmoaaDoorQMark
import Derived.Test.YtohjfcfcopbmoaaDoorQN3

/- What is left of a net, as a block of 34 cells: the net, the list of those that are left, how many they are. -/
namespace Go.Proofs.YtohjfcfcopbmoaaDoor
open Go.RowKit

/-- The cells: the number of vertices, 16 masks, 16 places of the list, how many of them count. -/
def remF (n : Nat) (M : Nat → Nat) (lf : Nat → Int) (m : Nat) (i : Nat) : Value :=
  if i = 0 then .int .i64 (n : Int) else if i < 17 then .int .u32 (M (i - 1) : Int) else if i < 33 then .int .i64 (lf (i - 17)) else .int .i64 (m : Int)
theorem remF_mask (n : Nat) (M : Nat → Nat) (lf : Nat → Int) (m : Nat) {i : Nat} (h : i < 16) : remF n M lf m (1 + i) = .int .u32 (M i : Int) := by
  unfold remF
  rw [if_neg (by omega), if_pos (by omega), show 1 + i - 1 = i from by omega]
theorem remF_list (n : Nat) (M : Nat → Nat) (lf : Nat → Int) (m : Nat) {i : Nat} (h : i < 16) : remF n M lf m (17 + i) = .int .i64 (lf i) := by
  unfold remF
  rw [if_neg (by omega), if_neg (by omega), if_pos (by omega), show 17 + i - 17 = i from by omega]
theorem remF_many (n : Nat) (M : Nat → Nat) (lf : Nat → Int) (m : Nat) : remF n M lf m 33 = .int .i64 (m : Int) := rfl
variable {w w' : World} {g n : Nat} {M : Nat → Nat} {zs : List Int}
end Go.Proofs.YtohjfcfcopbmoaaDoor

/- Walks: how many edges lack between the neighbours that are left; where a number stands in a list. -/
namespace Go.Proofs.YtohjfcfcopbmoaaDoor
open Go.RowKit

/-- One mask cleared of another's bits. -/
theorem clr_pm (p q : Nat → Bool) : clrM (pm p) (pm q) = pm (fun j => p j && !q j) := by
  apply Nat.eq_of_testBit_eq
  intro j
  rw [clrM_bit (pm_lt _) (pm_lt _), pm_bit, pm_bit, pm_bit]
  by_cases h : j < 16
  · simp [h]
  · simp [h]
theorem clr_pow (p : Nat → Bool) {v : Nat} (hv : v < 16) : clrM (pm p) (2 ^ v) = pm (fun j => p j && j != v) := by
  apply Nat.eq_of_testBit_eq
  intro j
  rw [clrM_bit (pm_lt _) (pow_lt16 hv), pm_bit, pm_bit, Nat.testBit_two_pow]
  by_cases e : v = j
  · subst e; simp
  · have : (j != v) = true := by rw [bne_iff_ne]; omega
    rw [this]; simp [e]

end Go.Proofs.YtohjfcfcopbmoaaDoor

/- Walks: a vertex is taken away from what is left. -/
namespace Go.Proofs.YtohjfcfcopbmoaaDoor
open Go.RowKit

theorem splice_get {α : Type} (L : List α) (o : Nat) (cs : List α) (h : o + cs.length ≤ L.length) (j : Nat) : (splice L o cs)[j]? = if j < o then L[j]? else if j < o + cs.length then cs[j - o]? else L[j]? := by
  unfold splice
  by_cases h1 : j < o
  · rw [if_pos h1, List.getElem?_append_left (by rw [List.length_take]; omega), List.getElem?_take, if_pos h1]
  · rw [if_neg h1, List.getElem?_append_right (by rw [List.length_take]; omega), List.length_take, Nat.min_eq_left (by omega)]
    by_cases h2 : j < o + cs.length
    · rw [if_pos h2, List.getElem?_append_left (by omega)]
    · rw [if_neg h2, List.getElem?_append_right (by omega), List.getElem?_drop]
      congr 1; omega
theorem rowIs_list {w : World} {b n : Nat} {t : TypeId} {f : Nat → Value} (h : w.rowIs b t n f) : w.heap[b]? = some (.cells ((List.range n).map f).toArray t (0, 0)) := by
  obtain ⟨c, hb, hn, hc⟩ := h
  rw [hb]
  have : c = ((List.range n).map f).toArray := by
    apply Array.ext_getElem?
    intro i
    by_cases hi : i < n
    · rw [hc i hi]; simp [hi]
    · rw [Array.getElem?_eq_none (by omega), Array.getElem?_eq_none (by simp; omega)]
  rw [this]
/-- The list closed up behind place k. -/
def closeF (lf : Nat → Int) (k m i : Nat) : Int := if k ≤ i ∧ i + 1 < m then lf (i + 1) else lf i
def moved (lf : Nat → Int) (k m : Nat) : List Value := (List.range (m - (k + 1))).map (fun i => Value.int .i64 (lf (k + 1 + i)))
theorem moved_len (lf : Nat → Int) (k m : Nat) : (moved lf k m).length = m - (k + 1) := by simp [moved]
theorem moved_one (lf : Nat → Int) (k m : Nat) : ∀ v ∈ moved lf k m, v.oneCell' = true := by
  intro v hv
  simp only [moved, List.mem_map] at hv
  obtain ⟨i, _, rfl⟩ := hv
  rfl
/-- The list without place k. -/
def offL (zs : List Int) (k : Nat) : List Int := zs.take k ++ zs.drop (k + 1)
theorem offL_len {zs : List Int} {k : Nat} (h : k < zs.length) : (offL zs k).length = zs.length - 1 := by simp [offL]; omega
theorem offL_nth {zs : List Int} {k : Nat} (h : k < zs.length) {i : Nat} (hi : i < zs.length - 1) : nth (offL zs k) i = if k ≤ i then nth zs (i + 1) else nth zs i := by
  unfold offL nth
  rw [List.getD_eq_getElem?_getD]
  by_cases c : k ≤ i
  · rw [if_pos c, List.getElem?_append_right (by rw [List.length_take]; omega), List.getElem?_drop, List.length_take, Nat.min_eq_left (by omega), List.getD_eq_getElem?_getD]
    congr 2; omega
  · rw [if_neg c, List.getElem?_append_left (by rw [List.length_take]; omega), List.getElem?_take, if_pos (by omega), List.getD_eq_getElem?_getD]
/-- .. without the vertex v. -/
def cutA (W : Nat → Nat → Bool) (v i j : Nat) : Bool := W i j && i != v && j != v
/-- Some of its neighbours have lost v already. -/
def cutTo (W : Nat → Nat → Bool) (v : Nat) (xs : List Int) (k i j : Nat) : Bool := W i j && !(j == v && hasB (xs.take k) (i : Int))
theorem Tryd.sizeI64 : (Tryd.prog.info? 2).map (·.size) = some 1 := by kernel_rfl
theorem cutTo_zero (W : Nat → Nat → Bool) (v : Nat) (xs : List Int) : cutTo W v xs 0 = W := by
  funext i j
  unfold cutTo
  have : hasB (xs.take 0) (i : Int) = false := hasB_false.2 (by simp)
  rw [this]; simp
theorem cutTo_next (W : Nat → Nat → Bool) (v : Nat) {xs : List Int} {k u : Nat} (hk : k < xs.length) (e : nth xs k = (u : Int)) (i : Nat) (hv : v < 16) :
    (if i = u then clrM (pm (cutTo W v xs k u)) (2 ^ v) else pm (cutTo W v xs k i)) = pm (cutTo W v xs (k + 1) i) := by
  by_cases h : i = u
  · subst h
    rw [if_pos rfl, clr_pow _ hv]
    refine pm_congr (fun j _ => ?_)
    unfold cutTo
    rw [take_snoc hk, e, hasB_snoc]
    have : (j != v) = !(j == v) := rfl
    rw [this]
    cases W i j <;> cases (j == v) <;> simp
  · rw [if_neg h]
    refine pm_congr (fun j _ => ?_)
    unfold cutTo
    rw [take_snoc hk, e, hasB_snoc]
    have : ((i : Int) == (u : Int)) = false := by rw [beq_eq_false_iff_ne]; omega
    rw [this, Bool.or_false]
theorem cutTo_all {W : Nat → Nat → Bool} {v : Nat} (hs : ∀ i j, W i j = W j i) (hl : W v v = false) (i : Nat) (hi : i < 16) (xs : List Int) (hxs : xs = listM (pm (W v))) :
    (if i = v then 0 else pm (cutTo W v xs xs.length i)) = pm (cutA W v i) := by
  by_cases h : i = v
  · subst h
    rw [if_pos rfl, ← pm_false]
    refine pm_congr (fun j _ => ?_)
    unfold cutA; simp
  · rw [if_neg h]
    refine pm_congr (fun j _ => ?_)
    unfold cutTo cutA
    have h2 : (i != v) = true := by rw [bne_iff_ne]; exact h
    rw [h2, Bool.and_true, List.take_length]
    by_cases e : j = v
    · subst e
      have : hasB xs (i : Int) = W j i := by
        rw [Bool.eq_iff_iff, hasB_mem, hxs, listM_mem]
        constructor
        · rintro ⟨q, hq, hb, e⟩
          have : q = i := by omega
          subst this
          rw [pm_bit, Bool.and_eq_true] at hb
          exact hb.2
        · intro hw
          exact ⟨i, hi, by rw [pm_bit, hw]; simp [hi], rfl⟩
      rw [this, hs i j]
      cases W j i <;> simp
    · have h3 : (j == v) = false := by rw [beq_eq_false_iff_ne]; exact e
      have h4 : (j != v) = true := by rw [bne_iff_ne]; exact e
      rw [h3, h4]; simp

theorem touched_cell {g i : Nat} {w w' : World} (h : Touched g (g + 1) w w') (u : Value) : Touched g (g + 1) w (w'.setCell ⟨g, i, none⟩ u) :=
  ⟨h.os, h.tape, h.output, by rw [size_setCell1]; exact h.size, fun j h1 h2 => by rw [heap_setCell_other _ _ _ _ (by show j ≠ g; omega)]; exact h.other j h1 h2⟩
/-- The copy into a block, told of that block alone. -/
theorem wpList_copy_at {P : Program} {w : World} {ops : Array Oper} {rest : List Oper} {o : Oper} {a : Act} {Q : Exit → Act → World → Prop} (hgd : o.guard = none) (d s : Operand) (dT sT : TypeId)
    (ho : o.op = .call { callee := .builtin .copy, args := #[d, s], argTypes := #[dT, sT] }) (elem : TypeId) (hu : P.underlying dT = some (.slice elem)) (hsz : (P.info? elem).map (·.size) = some 1)
    (dp sp : Option Addr) (dLen dCap sLen sCap : Nat) (hd : a.eval d = .slice dp dLen dCap) (hs : a.eval s = .slice sp sLen sCap)
    (g off : Nat) (cur : List Value) (t : TypeId) (hg : w.heap[g]? = some (.cells cur.toArray t (0, 0))) (cs : List Value) (hn : cs.length = Nat.min sLen dLen)
    (hpos : 0 < cs.length → dp = some ⟨g, off, none⟩ ∧ ∃ ad, sp = some ad ∧ ∀ j v, cs[j]? = some v → w.cell? (ad.add j) = some v)
    (hfit : off + cs.length ≤ cur.length) (h1 : ∀ v ∈ cs, v.oneCell' = true)
    (h : ∀ w', Hid (w'.heap[g]? = some (.cells (splice cur off cs).toArray t (0, 0))) → Touched g (g + 1) w w' → wpList P ops Q rest (a.put o.dst (goInt cs.length)) w') :
    wpList P ops Q (o :: rest) a w := by
  by_cases h0 : cs.length = 0
  · obtain rfl : cs = [] := List.eq_nil_of_length_eq_zero h0
    refine wpList_copy_nothing hgd d s dT sT ho elem hu hsz dp sp dLen dCap sLen sCap hd hs (by simpa using hn.symm) ?_
    exact h w (show _ = _ by simpa [splice] using hg) (Touched.refl _ _ _)
  · obtain ⟨rfl, ad, rfl, hsrc⟩ := hpos (by omega)
    refine wpList_copy_own hgd d s dT sT ho elem hu hsz g off dLen dCap ad sLen sCap hd hs cur.toArray t hg cs hn hsrc (by simpa using hfit) h1 ?_
    exact h _ (show _ = _ by simpa [splice] using setRow_heap w g _ _ t _ hg) ⟨rfl, rfl, rfl, by simp [World.setRow], fun k _ hk => setRow_other w g k _ (by omega)⟩

end Go.Proofs.YtohjfcfcopbmoaaDoor

/- Walks: a vertex is eliminated. -/
namespace Go.Proofs.YtohjfcfcopbmoaaDoor
open Go.RowKit

/-- The neighbours of v become neighbours of each other. -/
def knitA (W : Nat → Nat → Bool) (v i j : Nat) : Bool := W i j || (W v i && W v j && i != j)
def elimTo (W : Nat → Nat → Bool) (v : Nat) (xs : List Int) (k i j : Nat) : Bool := if hasB (xs.take k) (i : Int) = true then (W i j || W v j) && j != i else W i j
theorem or_pm (p q : Nat → Bool) : bits BinOp.or IntKind.u32 ((pm p : Nat) : Int) ((pm q : Nat) : Int) = ((pm (fun j => p j || q j) : Nat) : Int) := by
  have h1 := pm_lt p
  have h2 := pm_lt q
  rw [u32_or_nat _ _ (by omega) (by omega)]
  congr 1
  apply Nat.eq_of_testBit_eq
  intro j
  rw [Nat.testBit_or, pm_bit, pm_bit, pm_bit]
  cases decide (j < 16) <;> simp
theorem elimTo_zero (W : Nat → Nat → Bool) (v : Nat) (xs : List Int) : elimTo W v xs 0 = W := by
  funext i j
  unfold elimTo
  have : hasB (xs.take 0) (i : Int) = false := hasB_false.2 (by simp)
  rw [this]; simp
theorem elimTo_next (W : Nat → Nat → Bool) (v : Nat) {xs : List Int} {k u : Nat} (hk : k < xs.length) (e : nth xs k = (u : Int)) (hn : (u : Int) ∉ xs.take k) (i : Nat) (hu : u < 16) :
    (if i = u then clrM (pm (fun j => elimTo W v xs k u j || W v j)) (2 ^ u) else pm (elimTo W v xs k i)) = pm (elimTo W v xs (k + 1) i) := by
  by_cases h : i = u
  · subst h
    rw [if_pos rfl, clr_pow _ hu]
    refine pm_congr (fun j _ => ?_)
    unfold elimTo
    have h1 : hasB (xs.take k) (i : Int) = false := hasB_false.2 hn
    have h2 : hasB (xs.take (k + 1)) (i : Int) = true := (hasB_mem _ _).2 (by rw [take_snoc hk, e]; simp)
    rw [h1, h2]; simp
  · rw [if_neg h]
    refine pm_congr (fun j _ => ?_)
    unfold elimTo
    rw [take_snoc hk, e, hasB_snoc]
    have : ((i : Int) == (u : Int)) = false := by rw [beq_eq_false_iff_ne]; omega
    rw [this, Bool.or_false]
theorem elimTo_all {W : Nat → Nat → Bool} {v : Nat} (hl : ∀ i, W i i = false) (i : Nat) (hi : i < 16) (xs : List Int) (hxs : xs = listM (pm (W v))) :
    pm (elimTo W v xs xs.length i) = pm (knitA W v i) := by
  refine pm_congr (fun j _ => ?_)
  unfold elimTo knitA
  rw [List.take_length]
  have : hasB xs (i : Int) = W v i := by
    rw [Bool.eq_iff_iff, hasB_mem, hxs, listM_mem]
    constructor
    · rintro ⟨q, hq, hb, e⟩
      have : q = i := by omega
      subst this
      rw [pm_bit, Bool.and_eq_true] at hb
      exact hb.2
    · intro hw
      exact ⟨i, hi, by rw [pm_bit, hw]; simp [hi], rfl⟩
  rw [this]
  have e1 : (i != j) = (j != i) := by rw [Bool.eq_iff_iff, bne_iff_ne, bne_iff_ne]; omega
  rw [e1]
  by_cases e : j = i
  · subst e; rw [hl]; cases W v j <;> simp
  · have : (j != i) = true := by rw [bne_iff_ne]; exact e
    rw [this]
    cases W v i <;> cases W i j <;> simp
theorem knit_rel {n : Nat} {W : Nat → Nat → Bool} (h : RelP n W) (v : Nat) : RelP n (knitA W v) := by
  have := clique_rel h (S := W v) (fun i hi => (h.range v i hi).2)
  exact this
theorem listM_new {p : Nat → Bool} {k : Nat} (hk : k < (listM (pm p)).length) : nth (listM (pm p)) k ∉ (listM (pm p)).take k := by
  intro hm
  obtain ⟨j, hj, e⟩ := List.mem_iff_getElem.1 hm
  have hjk : j < k := by rw [List.length_take] at hj; omega
  have h1 := listM_rise (pm p) j k hjk hk
  have : nth (listM (pm p)) j = nth (listM (pm p)) k := by
    rw [← e, nth_eq (by omega)]
    simp
  omega

end Go.Proofs.YtohjfcfcopbmoaaDoor
