/- The texts ER1, ER2, ER3, ER4, joined. -/
import Derived.Test.YtohjfcfcopbmoaaQEO1
import Derived.Test.YtohjfcfcopbmoaaQM1
import Derived.Laws.CopyOwn
import Derived.Deep.RegionLaw
import Derived.Test.YtohjfcfcopbmoaaQEL1
import Derived.Test.YtohjfcfcopbmoaaQMark
import Derived.Test.YtohjfcfcopbmoaaQN4

/- What is left of a net, as a block of 34 cells: the net, the list of those that are left, how many they are. -/
namespace Go.Proofs.Ytohjfcfcopbmoaa
open Go.RowKit

/-- The cells: the number of vertices, 16 masks, 16 places of the list, how many of them count. -/
def remF (n : Nat) (M : Nat → Nat) (lf : Nat → Int) (m : Nat) (i : Nat) : Value :=
  if i = 0 then .int .i64 (n : Int) else if i < 17 then .int .u32 (M (i - 1) : Int) else if i < 33 then .int .i64 (lf (i - 17)) else .int .i64 (m : Int)
/-- Block g is what is left of a net: of n vertices with the masks M, those of the list zs. -/
structure RemBlk (w : World) (g n : Nat) (M : Nat → Nat) (zs : List Int) : Prop where
  row : ∃ lf, w.rowIs g 83 34 (remF n M lf zs.length) ∧ ∀ i, i < zs.length → lf i = nth zs i
theorem remF_mask (n : Nat) (M : Nat → Nat) (lf : Nat → Int) (m : Nat) {i : Nat} (h : i < 16) : remF n M lf m (1 + i) = .int .u32 (M i : Int) := by
  unfold remF
  rw [if_neg (by omega), if_pos (by omega), show 1 + i - 1 = i from by omega]
theorem remF_list (n : Nat) (M : Nat → Nat) (lf : Nat → Int) (m : Nat) {i : Nat} (h : i < 16) : remF n M lf m (17 + i) = .int .i64 (lf i) := by
  unfold remF
  rw [if_neg (by omega), if_neg (by omega), if_pos (by omega), show 17 + i - 17 = i from by omega]
theorem remF_many (n : Nat) (M : Nat → Nat) (lf : Nat → Int) (m : Nat) : remF n M lf m 33 = .int .i64 (m : Int) := rfl
namespace RemBlk
variable {w w' : World} {g n : Nat} {M : Nat → Nat} {zs : List Int}
theorem mask (h : RemBlk w g n M zs) {i : Nat} (hi : i < 16) : w.cell? ⟨g, 1 + i, none⟩ = some (.int .u32 (M i : Int)) := by
  obtain ⟨lf, h1, _⟩ := h.row
  rw [h1.cell (by omega), remF_mask _ _ _ _ hi]
theorem list (h : RemBlk w g n M zs) {i : Nat} (hi : i < zs.length) (h16 : zs.length ≤ 16) : w.cell? ⟨g, 17 + i, none⟩ = some (.int .i64 (nth zs i)) := by
  obtain ⟨lf, h1, h2⟩ := h.row
  rw [h1.cell (by omega), remF_list _ _ _ _ (by omega), h2 i hi]
theorem many (h : RemBlk w g n M zs) : w.cell? ⟨g, 33, none⟩ = some (.int .i64 (zs.length : Int)) := by
  obtain ⟨lf, h1, _⟩ := h.row
  rw [h1.cell (by omega), remF_many]
theorem frozen (h : RemBlk w g n M zs) (i : Nat) : w.frozen? ⟨g, i, none⟩ = false := by
  obtain ⟨lf, h1, _⟩ := h.row
  exact h1.frozen i
theorem lt (h : RemBlk w g n M zs) : g < w.heap.size := by
  obtain ⟨lf, h1, _⟩ := h.row
  exact h1.lt
theorem of_block (h : RemBlk w g n M zs) (e : w'.heap[g]? = w.heap[g]?) : RemBlk w' g n M zs := by
  obtain ⟨lf, h1, h2⟩ := h.row
  exact ⟨lf, h1.of_block e, h2⟩
theorem keep (h : RemBlk w g n M zs) (hb : Below w.heap.size w w') : RemBlk w' g n M zs := h.of_block (hb.block _ h.lt)
theorem keepB {B : Nat} (h : RemBlk w g n M zs) (hb : Below B w w') (hg : g < B) : RemBlk w' g n M zs := h.of_block (hb.block _ hg)
theorem drawn (h : RemBlk w g n M zs) (hd : Drawn w w') : RemBlk w' g n M zs := h.keep (hd.below _)
theorem setMask (h : RemBlk w g n M zs) {i : Nat} (hi : i < 16) (x : Nat) : RemBlk (w.setCell ⟨g, 1 + i, none⟩ (.int .u32 (x : Int))) g n (fun j => if j = i then x else M j) zs := by
  obtain ⟨lf, h1, h2⟩ := h.row
  refine ⟨lf, (h1.set (1 + i) _).congr (fun j hj => ?_), h2⟩
  by_cases e : j = 1 + i
  · subst e
    rw [if_pos rfl, remF_mask _ _ _ _ hi, if_pos rfl]
  · rw [if_neg e]
    unfold remF
    by_cases e0 : j = 0
    · rw [if_pos e0, if_pos e0]
    · rw [if_neg e0, if_neg e0]
      by_cases e1 : j < 17
      · rw [if_pos e1, if_pos e1]
        show _ = Value.int .u32 ((if j - 1 = i then x else M (j - 1) : Nat) : Int)
        rw [if_neg (by omega)]
      · rw [if_neg e1, if_neg e1]
theorem congr (h : RemBlk w g n M zs) {M' : Nat → Nat} (e : ∀ i, i < 16 → M i = M' i) : RemBlk w g n M' zs := by
  obtain ⟨lf, h1, h2⟩ := h.row
  refine ⟨lf, h1.congr (fun j hj => ?_), h2⟩
  unfold remF
  by_cases e0 : j = 0
  · rw [if_pos e0, if_pos e0]
  · rw [if_neg e0, if_neg e0]
    by_cases e1 : j < 17
    · rw [if_pos e1, if_pos e1, e (j - 1) (by omega)]
    · rw [if_neg e1, if_neg e1]
end RemBlk

/-- r.list: the slice of those that are left. -/
theorem remList_any (g n : Nat) (M : Nat → Nat) (zs : List Int) (w : World) (h : RemBlk w g n M zs) (hz : zs.length ≤ 16) : Calls Try.prog 88 #[.pointer (some ⟨g, 0, none⟩)] w fun e w' => e = .returned (.slice (some ⟨g, 17, none⟩) zs.length 16) ∧ Drawn w w' := by
  have k := h.many
  have hzI : (zs.length : Int) ≤ 16 := by omega
  go_enter Try.func88, Try.ntmps88
  go_wp2
  go_region
  go_wp2
  go_ret
  exact ⟨rfl, (Drawn.refl _).drew⟩

end Go.Proofs.Ytohjfcfcopbmoaa

/- Walks: how many edges lack between the neighbours that are left; where a number stands in a list. -/
namespace Go.Proofs.Ytohjfcfcopbmoaa
open Go.RowKit

set_option maxHeartbeats 2000000 in
theorem index_any (v : Value) (zs : List Int) (x : Int) (k0 : Nat) (w : World) (h : RowAt w v zs) (hs : zs.length ≤ 1048576) (hk0 : k0 < zs.length) (hx : nth zs k0 = x) (hn : ∀ j, j < k0 → nth zs j ≠ x) :
    Calls Try.prog 89 #[v, .int .i64 x] w fun e w' => e = .returned (.int .i64 (k0 : Int)) ∧ w = w' := by
  obtain ⟨b, o, c, rfl, l1, l2, hc⟩ := h.pos (by omega)
  have HC := Lib.hid hc
  have HN := Lib.hid hn
  have HX := Lib.hid hx
  clear h hc hn hx
  go_enter Try.func89, Try.ntmps89
  go_wp2_with fail
  go_loopw [8] (fun i wr => ∃ k : Nat, k ≤ k0 ∧ i = .int .i64 k ∧ wr = w) (fun i _ => k0 - (intOf i).toNat)
  case atStart => exact ⟨0, Nat.zero_le _, rfl, rfl⟩
  case round =>
    obtain ⟨k, hk, rfl, rfl⟩ := hrel
    have kc := HC.out k (by omega)
    have hkI : (k : Int) < (zs.length : Int) := by omega
    by_cases hlt : k < k0
    · have hne : (x == nth zs k) = false := by rw [beq_eq_false_iff_ne]; exact fun e => HN.out k hlt e.symm
      go_wp2
      go_roundw
      case rel => exact ⟨k + 1, by omega, by go_num, trivial⟩
      case measure => simp [intOf]; omega
    · obtain rfl : k = k0 := by omega
      have heq : (x == nth zs k) = true := by rw [beq_iff_eq]; exact HX.out.symm
      go_wp2
      go_ret
      exact ⟨rfl, rfl⟩

theorem clr_pow (p : Nat → Bool) {v : Nat} (hv : v < 16) : clrM (pm p) (2 ^ v) = pm (fun j => p j && j != v) := by
  apply Nat.eq_of_testBit_eq
  intro j
  rw [clrM_bit (pm_lt _) (pow_lt16 hv), pm_bit, pm_bit, Nat.testBit_two_pow]
  by_cases e : v = j
  · subst e; simp
  · have : (j != v) = true := by rw [bne_iff_ne]; omega
    rw [this]; simp [e]

end Go.Proofs.Ytohjfcfcopbmoaa

/- Walks: a vertex is taken away from what is left. -/
namespace Go.Proofs.Ytohjfcfcopbmoaa
open Go.RowKit

theorem splice_get {α : Type} (L : List α) (o : Nat) (cs : List α) (h : o + cs.length ≤ L.length) (j : Nat) : (splice L o cs)[j]? = if j < o then L[j]? else if j < o + cs.length then cs[j - o]? else L[j]? := by
  unfold splice
  by_cases h1 : j < o
  · rw [if_pos h1, List.getElem?_append_left (by rw [List.length_take]; omega), List.getElem?_take, if_pos h1]
  · rw [if_neg h1, List.getElem?_append_right (by rw [List.length_take]; omega), List.length_take, Nat.min_eq_left (by omega)]
    by_cases h2 : j < o + cs.length
    · rw [if_pos h2, List.getElem?_append_left (by omega)]
    · rw [if_neg h2, List.getElem?_append_right (by omega), List.getElem?_drop]
      congr 1; omega
theorem rowIs_list {w : World} {b n : Nat} {t : TypeId} {f : Nat → Value} (h : w.rowIs b t n f) : w.heap[b]? = some (.cells ((List.range n).map f).toArray t (0, 0)) := by
  obtain ⟨c, hb, hn, hc⟩ := h
  rw [hb]
  have : c = ((List.range n).map f).toArray := by
    apply Array.ext_getElem?
    intro i
    by_cases hi : i < n
    · rw [hc i hi]; simp [hi]
    · rw [Array.getElem?_eq_none (by omega), Array.getElem?_eq_none (by simp; omega)]
  rw [this]
/-- The list closed up behind place k. -/
def closeF (lf : Nat → Int) (k m i : Nat) : Int := if k ≤ i ∧ i + 1 < m then lf (i + 1) else lf i
def moved (lf : Nat → Int) (k m : Nat) : List Value := (List.range (m - (k + 1))).map (fun i => Value.int .i64 (lf (k + 1 + i)))
theorem moved_len (lf : Nat → Int) (k m : Nat) : (moved lf k m).length = m - (k + 1) := by simp [moved]
theorem moved_one (lf : Nat → Int) (k m : Nat) : ∀ v ∈ moved lf k m, v.oneCell' = true := by
  intro v hv
  simp only [moved, List.mem_map] at hv
  obtain ⟨i, _, rfl⟩ := hv
  rfl
theorem moved_src {w : World} {g n : Nat} {M : Nat → Nat} {lf : Nat → Int} {k m : Nat} (h : w.rowIs g 83 34 (remF n M lf m)) (hm : m ≤ 16) : ∀ j v, (moved lf k m)[j]? = some v → w.cell? ((⟨g, 17 + (k + 1), none⟩ : Addr).add j) = some v := by
  intro j v hj
  have hl := moved_len lf k m
  have hjl : j < (moved lf k m).length := by
    rcases Nat.lt_or_ge j (moved lf k m).length with h1 | h1
    · exact h1
    · rw [List.getElem?_eq_none h1] at hj; cases hj
  rw [hl] at hjl
  have e : v = .int .i64 (lf (k + 1 + j)) := by
    unfold moved at hj
    simp [hjl] at hj
    exact hj.symm
  have hc := h.cell (i := 17 + (k + 1 + j)) (by omega)
  rw [remF_list _ _ _ _ (by omega)] at hc
  rw [e, ← hc]
  unfold Addr.add
  split
  · rename_i e0; subst e0; rfl
  · simp [Nat.add_assoc]
theorem moved_row {w' : World} {g n : Nat} {M : Nat → Nat} {lf : Nat → Int} {k m : Nat} (hk : k < m) (hm : m ≤ 16)
    (h : w'.heap[g]? = some (.cells (splice ((List.range 34).map (remF n M lf m)) (17 + k) (moved lf k m)).toArray 83 (0, 0))) : w'.rowIs g 83 34 (remF n M (closeF lf k m) m) := by
  have hl := moved_len lf k m
  have hfit : 17 + k + (moved lf k m).length ≤ ((List.range 34).map (remF n M lf m)).length := by rw [hl, List.length_map, List.length_range]; omega
  refine ⟨_, h, by rw [List.size_toArray, length_splice _ _ _ hfit]; simp, fun i hi => ?_⟩
  rw [List.getElem?_toArray, splice_get _ _ _ hfit, hl]
  have e0 : ((List.range 34).map (remF n M lf m))[i]? = some (remF n M lf m i) := by simp [hi]
  by_cases h1 : i < 17 + k
  · rw [if_pos h1, e0]
    unfold remF closeF
    congr 1
    by_cases c0 : i = 0
    · rw [if_pos c0, if_pos c0]
    · rw [if_neg c0, if_neg c0]
      by_cases c1 : i < 17
      · rw [if_pos c1, if_pos c1]
      · rw [if_neg c1, if_neg c1, if_pos (by omega), if_pos (by omega), if_neg (by omega)]
  · rw [if_neg h1]
    by_cases h2 : i < 17 + k + (m - (k + 1))
    · rw [if_pos h2]
      have : (moved lf k m)[i - (17 + k)]? = some (.int .i64 (lf (k + 1 + (i - (17 + k))))) := by
        unfold moved
        rw [List.getElem?_map, List.getElem?_range (by omega)]; rfl
      rw [this]
      unfold remF closeF
      rw [if_neg (by omega), if_neg (by omega), if_pos (by omega), if_pos (by omega)]
      congr 3
      omega
    · rw [if_neg h2, e0]
      unfold remF closeF
      congr 1
      have d0 : ¬ i = 0 := by omega
      have d1 : ¬ i < 17 := by omega
      have d2 : ¬ (k ≤ i - 17 ∧ i - 17 + 1 < m) ∨ ¬ i < 33 := by omega
      rw [if_neg d0, if_neg d1, if_neg d0, if_neg d1]
      by_cases c2 : i < 33
      · rw [if_pos c2, if_pos c2, if_neg (by omega)]
      · rw [if_neg c2, if_neg c2]
/-- The list without place k. -/
def offL (zs : List Int) (k : Nat) : List Int := zs.take k ++ zs.drop (k + 1)
theorem offL_len {zs : List Int} {k : Nat} (h : k < zs.length) : (offL zs k).length = zs.length - 1 := by simp [offL]; omega
theorem offL_nth {zs : List Int} {k : Nat} (h : k < zs.length) {i : Nat} (hi : i < zs.length - 1) : nth (offL zs k) i = if k ≤ i then nth zs (i + 1) else nth zs i := by
  unfold offL nth
  rw [List.getD_eq_getElem?_getD]
  by_cases c : k ≤ i
  · rw [if_pos c, List.getElem?_append_right (by rw [List.length_take]; omega), List.getElem?_drop, List.length_take, Nat.min_eq_left (by omega), List.getD_eq_getElem?_getD]
    congr 2; omega
  · rw [if_neg c, List.getElem?_append_left (by rw [List.length_take]; omega), List.getElem?_take, if_pos (by omega), List.getD_eq_getElem?_getD]
theorem closed_off {w : World} {g n : Nat} {M : Nat → Nat} {lf : Nat → Int} {zs : List Int} {k : Nat} (hk : k < zs.length) (hl : ∀ i, i < zs.length → lf i = nth zs i) (h : w.rowIs g 83 34 (remF n M (closeF lf k zs.length) zs.length)) :
    RemBlk (w.setCell ⟨g, 33, none⟩ (.int .i64 ((offL zs k).length : Int))) g n M (offL zs k) := by
  refine ⟨closeF lf k zs.length, (h.set 33 _).congr (fun j hj => ?_), fun i hi => ?_⟩
  · by_cases e : j = 33
    · subst e; rfl
    · rw [if_neg e]
      unfold remF
      by_cases e0 : j = 0
      · rw [if_pos e0, if_pos e0]
      · rw [if_neg e0, if_neg e0]
        by_cases e1 : j < 17
        · rw [if_pos e1, if_pos e1]
        · rw [if_neg e1, if_neg e1, if_pos (by omega), if_pos (by omega)]
  · rw [offL_len hk] at hi
    rw [offL_nth hk hi]
    unfold closeF
    by_cases c : k ≤ i
    · rw [if_pos ⟨c, by omega⟩, if_pos c, hl _ (by omega)]
    · rw [if_neg (by omega), if_neg c, hl _ (by omega)]

/-- .. without the vertex v. -/
def cutA (W : Nat → Nat → Bool) (v i j : Nat) : Bool := W i j && i != v && j != v
/-- Some of its neighbours have lost v already. -/
def cutTo (W : Nat → Nat → Bool) (v : Nat) (xs : List Int) (k i j : Nat) : Bool := W i j && !(j == v && hasB (xs.take k) (i : Int))
theorem Try.sizeI64 : (Try.prog.info? 2).map (·.size) = some 1 := by kernel_rfl
theorem cutTo_zero (W : Nat → Nat → Bool) (v : Nat) (xs : List Int) : cutTo W v xs 0 = W := by
  funext i j
  unfold cutTo
  have : hasB (xs.take 0) (i : Int) = false := hasB_false.2 (by simp)
  rw [this]; simp
theorem cutTo_next (W : Nat → Nat → Bool) (v : Nat) {xs : List Int} {k u : Nat} (hk : k < xs.length) (e : nth xs k = (u : Int)) (i : Nat) (hv : v < 16) :
    (if i = u then clrM (pm (cutTo W v xs k u)) (2 ^ v) else pm (cutTo W v xs k i)) = pm (cutTo W v xs (k + 1) i) := by
  by_cases h : i = u
  · subst h
    rw [if_pos rfl, clr_pow _ hv]
    refine pm_congr (fun j _ => ?_)
    unfold cutTo
    rw [take_snoc hk, e, hasB_snoc]
    have : (j != v) = !(j == v) := rfl
    rw [this]
    cases W i j <;> cases (j == v) <;> simp
  · rw [if_neg h]
    refine pm_congr (fun j _ => ?_)
    unfold cutTo
    rw [take_snoc hk, e, hasB_snoc]
    have : ((i : Int) == (u : Int)) = false := by rw [beq_eq_false_iff_ne]; omega
    rw [this, Bool.or_false]
theorem cutTo_all {W : Nat → Nat → Bool} {v : Nat} (hs : ∀ i j, W i j = W j i) (hl : W v v = false) (i : Nat) (hi : i < 16) (xs : List Int) (hxs : xs = listM (pm (W v))) :
    (if i = v then 0 else pm (cutTo W v xs xs.length i)) = pm (cutA W v i) := by
  by_cases h : i = v
  · subst h
    rw [if_pos rfl, ← pm_false]
    refine pm_congr (fun j _ => ?_)
    unfold cutA; simp
  · rw [if_neg h]
    refine pm_congr (fun j _ => ?_)
    unfold cutTo cutA
    have h2 : (i != v) = true := by rw [bne_iff_ne]; exact h
    rw [h2, Bool.and_true, List.take_length]
    by_cases e : j = v
    · subst e
      have : hasB xs (i : Int) = W j i := by
        rw [Bool.eq_iff_iff, hasB_mem, hxs, listM_mem]
        constructor
        · rintro ⟨q, hq, hb, e⟩
          have : q = i := by omega
          subst this
          rw [pm_bit, Bool.and_eq_true] at hb
          exact hb.2
        · intro hw
          exact ⟨i, hi, by rw [pm_bit, hw]; simp [hi], rfl⟩
      rw [this, hs i j]
      cases W j i <;> simp
    · have h3 : (j == v) = false := by rw [beq_eq_false_iff_ne]; exact e
      have h4 : (j != v) = true := by rw [bne_iff_ne]; exact e
      rw [h3, h4]; simp

theorem cell_frame {w : World} {g n : Nat} {M : Nat → Nat} {zs : List Int} (h : RemBlk w g n M zs) (hz : zs.length ≤ 16) : RowAt w (.slice (some ⟨g, 17, none⟩) zs.length 16) zs ∨ ¬ ∀ x ∈ zs, I64 x := by
  rcases Classical.em (∀ x ∈ zs, I64 x) with hi | hi
  · left
    refine ⟨hi, by unfold maxLen; omega, ?_⟩
    by_cases h0 : zs.length = 0
    · left
      exact ⟨List.length_eq_zero_iff.1 h0, _, _, by rw [h0], fun e => by cases e⟩
    · right
      exact ⟨g, 17, 16, rfl, hz, by unfold maxLen; omega, fun i hi => h.list hi hz⟩
  · exact Or.inr hi

theorem touched_cell {g i : Nat} {w w' : World} (h : Touched g (g + 1) w w') (u : Value) : Touched g (g + 1) w (w'.setCell ⟨g, i, none⟩ u) :=
  ⟨h.os, h.tape, h.output, by rw [size_setCell1]; exact h.size, fun j h1 h2 => by rw [heap_setCell_other _ _ _ _ (by show j ≠ g; omega)]; exact h.other j h1 h2⟩
/-- The copy into a block, told of that block alone. -/
theorem wpList_copy_at {P : Program} {w : World} {ops : Array Oper} {rest : List Oper} {o : Oper} {a : Act} {Q : Exit → Act → World → Prop} (hgd : o.guard = none) (d s : Operand) (dT sT : TypeId)
    (ho : o.op = .call { callee := .builtin .copy, args := #[d, s], argTypes := #[dT, sT] }) (elem : TypeId) (hu : P.underlying dT = some (.slice elem)) (hsz : (P.info? elem).map (·.size) = some 1)
    (dp sp : Option Addr) (dLen dCap sLen sCap : Nat) (hd : a.eval d = .slice dp dLen dCap) (hs : a.eval s = .slice sp sLen sCap)
    (g off : Nat) (cur : List Value) (t : TypeId) (hg : w.heap[g]? = some (.cells cur.toArray t (0, 0))) (cs : List Value) (hn : cs.length = Nat.min sLen dLen)
    (hpos : 0 < cs.length → dp = some ⟨g, off, none⟩ ∧ ∃ ad, sp = some ad ∧ ∀ j v, cs[j]? = some v → w.cell? (ad.add j) = some v)
    (hfit : off + cs.length ≤ cur.length) (h1 : ∀ v ∈ cs, v.oneCell' = true)
    (h : ∀ w', Hid (w'.heap[g]? = some (.cells (splice cur off cs).toArray t (0, 0))) → Touched g (g + 1) w w' → wpList P ops Q rest (a.put o.dst (goInt cs.length)) w') :
    wpList P ops Q (o :: rest) a w := by
  by_cases h0 : cs.length = 0
  · obtain rfl : cs = [] := List.eq_nil_of_length_eq_zero h0
    refine wpList_copy_nothing hgd d s dT sT ho elem hu hsz dp sp dLen dCap sLen sCap hd hs (by simpa using hn.symm) ?_
    exact h w (show _ = _ by simpa [splice] using hg) (Touched.refl _ _ _)
  · obtain ⟨rfl, ad, rfl, hsrc⟩ := hpos (by omega)
    refine wpList_copy_own hgd d s dT sT ho elem hu hsz g off dLen dCap ad sLen sCap hd hs cur.toArray t hg cs hn hsrc (by simpa using hfit) h1 ?_
    exact h _ (show _ = _ by simpa [splice] using setRow_heap w g _ _ t _ hg) ⟨rfl, rfl, rfl, by simp [World.setRow], fun k _ hk => setRow_other w g k _ (by omega)⟩

set_option maxHeartbeats 4000000 in
set_option maxRecDepth 100000 in
theorem remRemove_any (zo : List Int) (g n v k0 : Nat) (W : Nat → Nat → Bool) (zs : List Int) (w : World) (h : RemBlk w g n (fun i => pm (W i)) zs) (hz : zs.length ≤ 16) (hk0 : k0 < zs.length) (hx : nth zs k0 = (v : Int)) (hnew : ∀ j, j < k0 → nth zs j ≠ (v : Int)) (hi64 : ∀ x ∈ zs, I64 x)
    (hv : v < 16) (hs : ∀ i j, W i j = W j i) (hl : W v v = false) (hzo : offL zs k0 = zo) :
    Calls Try.prog 78 #[.pointer (some ⟨g, 0, none⟩), .int .i64 (v : Int)] w fun e w' => e = .returned (.tuple #[]) ∧ RemBlk w' g n (fun i => pm (cutA W v i)) zo ∧ Touched g (g + 1) w w' := by
  have HR := Lib.hid h
  have hgl := h.lt
  have hzI : (zs.length : Int) ≤ 16 := by omega
  have HX := Lib.hid hx
  have HNW := Lib.hid hnew
  have HI := Lib.hid hi64
  have HALL : Hid (∀ i, i < 16 → (if i = v then 0 else pm (cutTo W v (listM (pm (W v))) (listM (pm (W v))).length i)) = pm (cutA W v i)) := fun i hi => cutTo_all hs hl i hi _ rfl
  have HLL := Lib.hid hl
  clear h hx hnew hi64 hs hl
  go_enter Try.func78, Try.ntmps78
  go_wp2_with fail
  refine (remList_any g n _ zs _ HR.out hz).mono ?_
  rintro e w1 ⟨rfl, hd1⟩
  have HR1 := Lib.hid (HR.out.drawn hd1)
  have HT1 : Hid (Touched g (g + 1) w w1) := Touched.ofBelow (hd1.below _)
  have hrow : RowAt w1 (.slice (some ⟨g, 17, none⟩) zs.length 16) zs := by
    rcases cell_frame HR1.out hz with h1 | h1
    · exact h1
    · exact absurd HI.out h1
  have HROW := Lib.hid hrow
  clear hd1 hrow
  go_wp2_with fail
  refine (index_any _ zs (v : Int) k0 _ HROW.out (by omega) hk0 HX.out HNW.out).mono ?_
  rintro e w' ⟨rfl, rfl⟩
  obtain ⟨lf, hrow, hlf⟩ := HR1.out.row
  have HLF := Lib.hid hlf
  obtain ⟨m, hm⟩ : ∃ m, m = zs.length := ⟨_, rfl⟩
  rw [← hm] at hrow hz hk0 hzI ⊢
  have HM := Lib.hid hm
  obtain ⟨q, HQ⟩ : ∃ q : Nat, Hid (q = k0 + 1) := ⟨k0 + 1, rfl⟩
  have hq := HQ.out
  have hwq : IntKind.i64.wrap ((k0 : Int) + 1) = (q : Int) := by rw [IntKind.wrap_i64]; omega
  have hql : (q : Int) ≤ (m : Int) := by omega
  have hkI : (k0 : Int) ≤ (m : Int) := by omega
  have hk16 : (16 = k0) = False := eq_false (by omega)
  have HG : Hid (w1.drew.heap[g]? = some (.cells ((List.range 34).map (remF n (fun i => pm (W i)) lf m)).toArray 83 (0, 0))) := rowIs_list hrow
  have HFIT : Hid (17 + k0 + (moved lf k0 m).length ≤ ((List.range 34).map (remF n (fun i => pm (W i)) lf m)).length) := by show _ ≤ _; rw [moved_len, List.length_map, List.length_range]; omega
  have HMIN : Hid ((moved lf k0 m).length = Nat.min (m - q) (m - k0)) := by show _ = _; rw [moved_len, HQ.out]; exact (Nat.min_eq_left (by omega)).symm
  have HEND : Hid (∀ W' : World, W'.heap[g]? = some (.cells (splice ((List.range 34).map (remF n (fun i => pm (W i)) lf m)) (17 + k0) (moved lf k0 m)).toArray 83 (0, 0)) → W'.rowIs g 83 34 (remF n (fun i => pm (W i)) (closeF lf k0 m) m)) := fun W' hw => moved_row hk0 hz hw
  have HSRC : Hid (q = k0 + 1 → ∀ j u, (moved lf k0 m)[j]? = some u → w1.drew.cell? ((⟨g, 17 + q, none⟩ : Addr).add j) = some u) := fun e => by rw [e]; exact moved_src (w := w1.drew) hrow hz
  have HK0 := Lib.hid hk0
  have HONE := Lib.hid (moved_one lf k0 m)
  have HM0 : Hid (q = 16 → q = k0 + 1 → ¬ 0 < (moved lf k0 m).length) := fun e1 e2 => by rw [moved_len]; omega
  have HTD : Hid (Touched g (g + 1) w w1.drew) := ⟨HT1.out.os, HT1.out.tape, HT1.out.output, HT1.out.size, HT1.out.other⟩
  have HOFF : Hid (∀ W' : World, Hid (W'.heap[g]? = some (.cells (splice ((List.range 34).map (remF n (fun i => pm (W i)) lf m)) (17 + k0) (moved lf k0 m)).toArray 83 (0, 0))) → W'.cell? ⟨g, 33, none⟩ = some (.int .i64 (m : Int)) ∧ W'.frozen? ⟨g, 33, none⟩ = false ∧ RemBlk (W'.setCell ⟨g, 33, none⟩ (.int .i64 (((m - 1 : Nat) : Nat) : Int))) g n (fun i => pm (W i)) zo) := fun W' hw => by
    have h1 := moved_row hk0 hz hw.out
    refine ⟨by rw [h1.cell (by omega), remF_many], h1.frozen _, ?_⟩
    have h2 := closed_off (zs := zs) (k := k0) (by rw [← hm]; exact hk0) hlf (by rw [← hm]; exact h1)
    rw [offL_len (by rw [← hm]; exact hk0), ← hm, hzo] at h2
    exact h2
  obtain ⟨cur, hcur⟩ : ∃ cur, cur = (List.range 34).map (remF n (fun i => pm (W i)) lf m) := ⟨_, rfl⟩
  obtain ⟨cs, hcs⟩ : ∃ cs, cs = moved lf k0 m := ⟨_, rfl⟩
  rw [← hcur, ← hcs] at HFIT HOFF
  rw [← hcur] at HG
  rw [← hcs] at HMIN HSRC HONE HM0
  clear hzo HEND hq hlf hrow hm hk0 hcur hcs HLF
  have hwm : IntKind.i64.wrap ((m : Int) - 1) = (((m - 1 : Nat)) : Int) := by rw [IntKind.wrap_i64]; have := HK0.out; omega
  by_cases h16 : q = 16
  case' pos =>
    have HM1 := Lib.hid (HM0.out h16 HQ.out)
    obtain rfl : m = 16 := by omega
    have hk15 : k0 = 15 := by have := HQ.out; omega
    subst h16
    subst hk15
    clear hk16 hwq hql hkI hzI hz
    have hw16 : IntKind.i64.wrap 16 = 16 := by decide
    go_wp2_with fail
    go_still_tail 7, (by kernel_rfl)
    change wpList _ _ _ _ _ w1.drew
    refine wpList_copy_at rfl (.tmp 15) (.tmp 19) 33 33 rfl 2 Try.underlying33 Try.sizeI64 _ _ _ _ _ _ rfl rfl g (17 + 15) cur 83 HG.out cs HMIN.out (fun h0 => absurd h0 HM1.out) HFIT.out HONE.out ?_
    intro w4 hg4 hb4
    obtain ⟨k33, f33, hr4⟩ := HOFF.out w4 hg4
    have HR5 : Hid (RemBlk (w4.setCell ⟨g, 33, none⟩ (.int .i64 (15))) g n (fun i => pm (W i)) zo) := hr4
    have HT5 : Hid (Touched g (g + 1) w (w4.setCell ⟨g, 33, none⟩ (.int .i64 (15)))) := touched_cell (HTD.out.trans hb4) _
    have kv := HR5.out.mask hv
    have hvI : (v : Int) < 16 := by omega
    clear hg4 hb4 hr4
    go_wp2_with fail
    clear kv k33 f33
    generalize w4.setCell ⟨g, 33, none⟩ (.int .i64 (15)) = w5 at HR5 HT5 ⊢
  case' neg =>
    have hne : (16 = q) = False := eq_false (by omega)
    have HKC := Lib.hid h16
    clear h16
    go_wp2_with fail
    go_still_tail 7, (by kernel_rfl)
    change wpList _ _ _ _ _ w1.drew
    refine wpList_copy_at rfl (.tmp 15) (.tmp 19) 33 33 rfl 2 Try.underlying33 Try.sizeI64 _ _ _ _ _ _ rfl rfl g (17 + k0) cur 83 HG.out cs HMIN.out (fun h0 => ⟨rfl, _, rfl, HSRC.out HQ.out⟩) HFIT.out HONE.out ?_
    intro w4 hg4 hb4
    obtain ⟨k33, f33, hr4⟩ := HOFF.out w4 hg4
    have HR5 : Hid (RemBlk (w4.setCell ⟨g, 33, none⟩ (.int .i64 (((m - 1 : Nat) : Int)))) g n (fun i => pm (W i)) zo) := hr4
    have HT5 : Hid (Touched g (g + 1) w (w4.setCell ⟨g, 33, none⟩ (.int .i64 (((m - 1 : Nat) : Int))))) := touched_cell (HTD.out.trans hb4) _
    have kv := HR5.out.mask hv
    have hvI : (v : Int) < 16 := by omega
    clear hg4 hb4 hr4
    go_wp2_with fail
    clear kv k33 f33
    generalize w4.setCell ⟨g, 33, none⟩ (.int .i64 (((m - 1 : Nat) : Int))) = w5 at HR5 HT5 ⊢
  all_goals (
    have hpl : pm (W v) < 65536 := pm_lt _
    refine (list_any (pm (W v)) _ hpl).mono ?_
    rintro e w6 ⟨n6, a6, c6, rfl, ho6, hb6⟩
    have HR6 := Lib.hid (HR5.out.keep hb6)
    have HT6 : Hid (Touched g (g + 1) w w6) := HT5.out.trans (Touched.ofBelow hb6)
    have HB6 := Lib.hid hb6
    obtain ⟨xs, hxs⟩ : ∃ xs, xs = listM (pm (W v)) := ⟨_, rfl⟩
    have hlen := listM_len (pm (W v))
    have HV : Hid (∀ i, i < xs.length → ∃ u : Nat, nth xs i = (u : Int) ∧ u < 16) := fun i hi => by
      subst hxs
      obtain ⟨h1, h2, h3⟩ := vtx_listM hi
      exact ⟨_, h3, h2⟩
    rw [← hxs] at ho6 hlen HALL
    obtain ⟨a7, c7, e7⟩ := ho6.row.slice
    simp only [Value.slice.injEq] at e7
    obtain ⟨rfl, rfl, rfl⟩ := e7
    have hB6 : g < w5.heap.size := HR5.out.lt
    have HO6 : Hid (OwnRow 2 w6 (g + 1) (.slice a6 xs.length c6) xs) := ho6.mono (by omega)
    clear ho6 hb6 hxs HB6 HR5 HT5
    go_wp2_with fail
    go_loopw [37] (fun i wr => ∃ k : Nat, k ≤ xs.length ∧ i = .int .i64 k ∧ RemBlk wr g n (fun i => pm (cutTo W v xs k i)) zo ∧ Touched g (g + 1) w6 wr) (fun i _ => xs.length - (intOf i).toNat)
    case atStart => exact ⟨0, Nat.zero_le _, rfl, by rw [cutTo_zero]; exact HR6.out, Touched.refl _ _ _⟩
    case round =>
      obtain ⟨k, hk, rfl, hr, ht⟩ := hrel
      have HR7 := Lib.hid hr
      have HT7 := Lib.hid ht
      by_cases hlt : k < xs.length
      · obtain ⟨u, hu, hu16⟩ := HV.out k hlt
        have hck : wr.cell? ⟨(0 : Nat), 0, none⟩ = wr.cell? ⟨(0 : Nat), 0, none⟩ := rfl
        obtain ⟨bx, ox, cx, ex, lx1, lx2, hcx⟩ := (HO6.out.touched ht (Nat.le_refl _)).row.pos (by omega)
        simp only [Value.slice.injEq, true_and] at ex
        obtain ⟨rfl, rfl⟩ := ex
        have hcu := hcx k hlt
        rw [hu] at hcu
        have ku := hr.mask hu16
        have fu := hr.frozen (1 + u)
        have huI : (u : Int) < 16 := by omega
        have HNX : Hid (∀ i, (if i = u then clrM (pm (cutTo W v xs k u)) (2 ^ v) else pm (cutTo W v xs k i)) = pm (cutTo W v xs (k + 1) i)) := fun i => cutTo_next W v hlt hu i hv
        clear hck hcx hr ht hu
        go_wp2_with fail
        refine (cut_any g (1 + u) (pm (cutTo W v xs k u)) (v : Int) _ ku fu (pm_lt _) (by omega) (by omega)).mono ?_
        rintro e w8 ⟨rfl, hd8⟩
        rw [Int.toNat_natCast] at hd8
        have HR8 : Hid (RemBlk w8 g n (fun i => pm (cutTo W v xs (k + 1) i)) zo) := ((HR7.out.setMask hu16 (clrM (pm (cutTo W v xs k u)) (2 ^ v))).drawn hd8).congr (fun i _ => HNX.out i)
        have HT8 : Hid (Touched g (g + 1) w6 w8) := (touched_cell HT7.out _).trans (Touched.ofBelow (hd8.below _))
        clear hd8 ku fu hcu
        go_wp2
        go_roundw
        case rel => exact ⟨k + 1, by omega, by go_num, HR8.out, HT8.out⟩
        case measure => simp [intOf]; omega
      · obtain rfl : k = xs.length := by omega
        have ku := hr.mask hv
        have fu := hr.frozen (1 + v)
        have HEND : Hid (RemBlk (wr.setCell ⟨g, 1 + v, none⟩ (.int .u32 ((0 : Nat) : Int))) g n (fun i => pm (cutA W v i)) zo) := (hr.setMask hv 0).congr (fun i hi => HALL.out i hi)
        have HTE : Hid (Touched g (g + 1) w (wr.setCell ⟨g, 1 + v, none⟩ (.int .u32 ((0 : Nat) : Int)))) := touched_cell (HT6.out.trans ht) _
        clear hr ht
        go_wp2
        go_end0
        exact ⟨rfl, HEND.out, HTE.out⟩)

end Go.Proofs.Ytohjfcfcopbmoaa

/- Walks: a vertex is eliminated. -/
namespace Go.Proofs.Ytohjfcfcopbmoaa
open Go.RowKit

/-- The neighbours of v become neighbours of each other. -/
def knitA (W : Nat → Nat → Bool) (v i j : Nat) : Bool := W i j || (W v i && W v j && i != j)
def elimTo (W : Nat → Nat → Bool) (v : Nat) (xs : List Int) (k i j : Nat) : Bool := if hasB (xs.take k) (i : Int) = true then (W i j || W v j) && j != i else W i j
theorem or_pm (p q : Nat → Bool) : bits BinOp.or IntKind.u32 ((pm p : Nat) : Int) ((pm q : Nat) : Int) = ((pm (fun j => p j || q j) : Nat) : Int) := by
  have h1 := pm_lt p
  have h2 := pm_lt q
  rw [u32_or_nat _ _ (by omega) (by omega)]
  congr 1
  apply Nat.eq_of_testBit_eq
  intro j
  rw [Nat.testBit_or, pm_bit, pm_bit, pm_bit]
  cases decide (j < 16) <;> simp
theorem elimTo_zero (W : Nat → Nat → Bool) (v : Nat) (xs : List Int) : elimTo W v xs 0 = W := by
  funext i j
  unfold elimTo
  have : hasB (xs.take 0) (i : Int) = false := hasB_false.2 (by simp)
  rw [this]; simp
theorem elimTo_next (W : Nat → Nat → Bool) (v : Nat) {xs : List Int} {k u : Nat} (hk : k < xs.length) (e : nth xs k = (u : Int)) (hn : (u : Int) ∉ xs.take k) (i : Nat) (hu : u < 16) :
    (if i = u then clrM (pm (fun j => elimTo W v xs k u j || W v j)) (2 ^ u) else pm (elimTo W v xs k i)) = pm (elimTo W v xs (k + 1) i) := by
  by_cases h : i = u
  · subst h
    rw [if_pos rfl, clr_pow _ hu]
    refine pm_congr (fun j _ => ?_)
    unfold elimTo
    have h1 : hasB (xs.take k) (i : Int) = false := hasB_false.2 hn
    have h2 : hasB (xs.take (k + 1)) (i : Int) = true := (hasB_mem _ _).2 (by rw [take_snoc hk, e]; simp)
    rw [h1, h2]; simp
  · rw [if_neg h]
    refine pm_congr (fun j _ => ?_)
    unfold elimTo
    rw [take_snoc hk, e, hasB_snoc]
    have : ((i : Int) == (u : Int)) = false := by rw [beq_eq_false_iff_ne]; omega
    rw [this, Bool.or_false]
theorem elimTo_all {W : Nat → Nat → Bool} {v : Nat} (hl : ∀ i, W i i = false) (i : Nat) (hi : i < 16) (xs : List Int) (hxs : xs = listM (pm (W v))) :
    pm (elimTo W v xs xs.length i) = pm (knitA W v i) := by
  refine pm_congr (fun j _ => ?_)
  unfold elimTo knitA
  rw [List.take_length]
  have : hasB xs (i : Int) = W v i := by
    rw [Bool.eq_iff_iff, hasB_mem, hxs, listM_mem]
    constructor
    · rintro ⟨q, hq, hb, e⟩
      have : q = i := by omega
      subst this
      rw [pm_bit, Bool.and_eq_true] at hb
      exact hb.2
    · intro hw
      exact ⟨i, hi, by rw [pm_bit, hw]; simp [hi], rfl⟩
  rw [this]
  have e1 : (i != j) = (j != i) := by rw [Bool.eq_iff_iff, bne_iff_ne, bne_iff_ne]; omega
  rw [e1]
  by_cases e : j = i
  · subst e; rw [hl]; cases W v j <;> simp
  · have : (j != i) = true := by rw [bne_iff_ne]; exact e
    rw [this]
    cases W v i <;> cases W i j <;> simp
theorem knit_rel {n : Nat} {W : Nat → Nat → Bool} (h : RelP n W) (v : Nat) : RelP n (knitA W v) := by
  have := clique_rel h (S := W v) (fun i hi => (h.range v i hi).2)
  exact this
theorem listM_new {p : Nat → Bool} {k : Nat} (hk : k < (listM (pm p)).length) : nth (listM (pm p)) k ∉ (listM (pm p)).take k := by
  intro hm
  obtain ⟨j, hj, e⟩ := List.mem_iff_getElem.1 hm
  have hjk : j < k := by rw [List.length_take] at hj; omega
  have h1 := listM_rise (pm p) j k hjk hk
  have : nth (listM (pm p)) j = nth (listM (pm p)) k := by
    rw [← e, nth_eq (by omega)]
    simp
  omega

set_option maxHeartbeats 4000000 in
set_option maxRecDepth 100000 in
theorem remEliminate_any (zo : List Int) (g n v k0 nn : Nat) (W : Nat → Nat → Bool) (zs : List Int) (w : World) (h : RemBlk w g n (fun i => pm (W i)) zs) (hz : zs.length ≤ 16) (hk0 : k0 < zs.length) (hx : nth zs k0 = (v : Int)) (hnew : ∀ j, j < k0 → nth zs j ≠ (v : Int)) (hi64 : ∀ x ∈ zs, I64 x)
    (hv : v < 16) (hrel : RelP nn W) (hzo : offL zs k0 = zo) :
    Calls Try.prog 62 #[.pointer (some ⟨g, 0, none⟩), .int .i64 (v : Int)] w fun e w' => e = .returned (.tuple #[]) ∧ RemBlk w' g n (fun i => pm (cutA (knitA W v) v i)) zo ∧ Touched g (g + 1) w w' := by
  have HR := Lib.hid h
  have hgl := h.lt
  have kv := h.mask hv
  have hvI : (v : Int) < 16 := by omega
  have hpl : pm (W v) < 65536 := pm_lt _
  obtain ⟨xs, hxs⟩ : ∃ xs, xs = listM (pm (W v)) := ⟨_, rfl⟩
  have hlen := listM_len (pm (W v))
  have HV : Hid (∀ i, i < xs.length → ∃ u : Nat, nth xs i = (u : Int) ∧ u < 16 ∧ (u : Int) ∉ xs.take i) := fun i hi => by
    subst hxs
    obtain ⟨h1, h2, h3⟩ := vtx_listM hi
    refine ⟨_, h3, h2, ?_⟩
    rw [← h3]; exact listM_new hi
  have HALL : Hid (∀ i, i < 16 → pm (elimTo W v xs xs.length i) = pm (knitA W v i)) := fun i hi => elimTo_all hrel.self i hi xs hxs
  have HREM : Hid (∀ W' : World, RemBlk W' g n (fun i => pm (knitA W v i)) zs → Calls Try.prog 78 #[.pointer (some ⟨g, 0, none⟩), .int .i64 (v : Int)] W' fun e w' => e = .returned (.tuple #[]) ∧ RemBlk w' g n (fun i => pm (cutA (knitA W v) v i)) zo ∧ Touched g (g + 1) W' w') :=
    fun W' hw => remRemove_any zo g n v k0 (knitA W v) zs W' hw hz hk0 hx hnew hi64 hv (knit_rel hrel v).sym ((knit_rel hrel v).self v) hzo
  rw [← hxs] at hlen
  have HXS := Lib.hid hxs
  clear h hx hnew hi64 hrel hzo hxs hk0 hz
  go_enter Try.func62, Try.ntmps62
  go_wp2_with fail
  refine (list_any (pm (W v)) _ hpl).mono ?_
  rintro e w6 ⟨n6, a6, c6, rfl, ho6, hb6⟩
  rw [← HXS.out] at ho6
  obtain ⟨a7, c7, e7⟩ := ho6.row.slice
  simp only [Value.slice.injEq] at e7
  obtain ⟨rfl, rfl, rfl⟩ := e7
  have HR6 := Lib.hid (HR.out.keep hb6)
  have HT6 : Hid (Touched g (g + 1) w w6) := Touched.ofBelow hb6
  have HO6 : Hid (OwnRow 2 w6 (g + 1) (.slice a6 xs.length c6) xs) := ho6.mono (by omega)
  clear ho6 hb6 kv
  go_wp2_with fail
  go_loopw [17] (fun i wr => ∃ k : Nat, k ≤ xs.length ∧ i = .int .i64 k ∧ RemBlk wr g n (fun i => pm (elimTo W v xs k i)) zs ∧ Touched g (g + 1) w6 wr) (fun i _ => xs.length - (intOf i).toNat)
  case atStart => exact ⟨0, Nat.zero_le _, rfl, by rw [elimTo_zero]; exact HR6.out, Touched.refl _ _ _⟩
  case round =>
    obtain ⟨k, hk, rfl, hr, ht⟩ := hrel
    have HR7 := Lib.hid hr
    have HT7 := Lib.hid ht
    by_cases hlt : k < xs.length
    · obtain ⟨u, hu, hu16, hun⟩ := HV.out k hlt
      obtain ⟨bx, ox, cx, ex, lx1, lx2, hcx⟩ := (HO6.out.touched ht (Nat.le_refl _)).row.pos (by omega)
      simp only [Value.slice.injEq, true_and] at ex
      obtain ⟨rfl, rfl⟩ := ex
      have hcu := hcx k hlt
      rw [hu] at hcu
      have ku := hr.mask hu16
      have fu := hr.frozen (1 + u)
      have huI : (u : Int) < 16 := by omega
      have HNX : Hid (∀ i, (if i = u then clrM (pm (fun j => elimTo W v xs k u j || W v j)) (2 ^ u) else pm (elimTo W v xs k i)) = pm (elimTo W v xs (k + 1) i)) := fun i => elimTo_next W v hlt hu hun i hu16
      have hor := or_pm (elimTo W v xs k u) (W v)
      have HR8 : Hid (RemBlk ((wr.setCell ⟨g, 1 + u, none⟩ (.int .u32 ((pm (fun j => elimTo W v xs k u j || W v j) : Nat) : Int))).drew) g n (fun i => if i = u then pm (fun j => elimTo W v xs k u j || W v j) else pm (elimTo W v xs k i)) zs) := (hr.setMask hu16 _).drawn (Drawn.refl _).drew
      have HT8 : Hid (Touched g (g + 1) w6 ((wr.setCell ⟨g, 1 + u, none⟩ (.int .u32 ((pm (fun j => elimTo W v xs k u j || W v j) : Nat) : Int))).drew)) := (touched_cell ht _).trans (Touched.ofBelow ((Drawn.refl _).drew.below _))
      clear hcx hr ht hu hun
      go_wp2_with fail
      go_region
      clear ku fu hcu hor
      generalize (wr.setCell ⟨g, 1 + u, none⟩ (.int .u32 ((pm (fun j => elimTo W v xs k u j || W v j) : Nat) : Int))).drew = w8 at HR8 HT8 ⊢
      have ku8 := HR8.out.mask hu16
      rw [if_pos rfl] at ku8
      have fu8 := HR8.out.frozen (1 + u)
      go_wp2_with fail
      refine (cut_any g (1 + u) (pm (fun j => elimTo W v xs k u j || W v j)) (u : Int) _ ku8 fu8 (pm_lt _) (by omega) (by omega)).mono ?_
      rintro e w9 ⟨rfl, hd9⟩
      rw [Int.toNat_natCast] at hd9
      have HR9 : Hid (RemBlk w9 g n (fun i => pm (elimTo W v xs (k + 1) i)) zs) := by
        refine ((HR8.out.setMask hu16 (clrM (pm (fun j => elimTo W v xs k u j || W v j)) (2 ^ u))).drawn hd9).congr (fun i _ => ?_)
        have := HNX.out i
        by_cases e : i = u
        · rw [if_pos e] at this ⊢; exact this
        · rw [if_neg e] at this ⊢; rw [if_neg e]; exact this
      have HT9 : Hid (Touched g (g + 1) w6 w9) := (touched_cell HT8.out _).trans (Touched.ofBelow (hd9.below _))
      clear hd9 ku8 fu8
      go_wp2
      go_roundw
      case rel => exact ⟨k + 1, by omega, by go_num, HR9.out, HT9.out⟩
      case measure => simp [intOf]; omega
    · obtain rfl : k = xs.length := by omega
      have HEND : Hid (RemBlk wr g n (fun i => pm (knitA W v i)) zs) := hr.congr (fun i hi => HALL.out i hi)
      clear hr ht
      go_wp2_with fail
      refine (HREM.out _ HEND.out).mono ?_
      rintro e w9 ⟨rfl, hr9, ht9⟩
      have HR9 := Lib.hid hr9
      have HT9 : Hid (Touched g (g + 1) w w9) := (HT6.out.trans HT7.out).trans ht9
      clear hr9 ht9
      go_wp2
      go_end0
      exact ⟨rfl, HR9.out, HT9.out⟩

end Go.Proofs.Ytohjfcfcopbmoaa
