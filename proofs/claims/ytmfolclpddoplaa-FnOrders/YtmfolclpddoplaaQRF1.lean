/- The texts RF1, RB1, joined. -/
import Derived.Test.YtmfolclpddoplaaQS1
import Derived.Test.YtmfolclpddoplaaEM3
import Derived.Test.YtmfolclpddoplaaQM4
import Derived.Test.YtmfolclpddoplaaQLater
import Derived.Test.YtmfolclpddoplaaQM9
import Derived.Test.YtmfolclpddoplaaQW2

/- Plain facts: orders, and the orders back. -/
namespace Go.Proofs.Ytmfolclpddoplaa

/-- The numbers below m, each once. -/
def PermP (xs : List Int) (m : Nat) : Prop := xs.length = m ∧ (∀ i, i < m → 0 ≤ nth xs i ∧ nth xs i < (m : Int)) ∧ ∀ i j, i < j → j < m → nth xs i ≠ nth xs j
theorem PermP.ord {xs : List Int} {m : Nat} (h : PermP xs m) : OrdP xs m := by
  refine ⟨h.1, fun k hk => ?_⟩
  rw [h.1] at hk
  refine ⟨?_, ?_⟩
  · have := h.2.1 k hk; unfold inB; rw [decide_eq_true_iff]; omega
  · rw [← Bool.not_eq_true, hasB_take (by rw [h.1]; omega)]
    rintro ⟨j, hj, e⟩
    exact h.2.2 j k hj hk e
theorem PermP.nodup {xs : List Int} {n : Nat} (h : PermP xs n) : xs.Nodup := by
  rw [List.nodup_iff_pairwise_ne, List.pairwise_iff_getElem]
  intro i j hi hj hij e
  have := h.1
  exact h.2.2 i j hij (by omega) (by rw [nth_eq hi, nth_eq hj]; exact e)
theorem PermP.onto {xs : List Int} {n : Nat} (h : PermP xs n) {v : Nat} (hv : v < n) : ∃ j, j < n ∧ nth xs j = (v : Int) := by
  rcases Classical.em (∃ j, j < n ∧ nth xs j = (v : Int)) with hx | hx
  · exact hx
  · exfalso
    have hnm : (v : Int) ∉ xs := fun hm => by
      obtain ⟨j, hj, e⟩ := List.getElem_of_mem hm
      exact hx ⟨j, by have := h.1; omega, by rw [nth_eq hj]; exact e⟩
    have hnd : ((v : Int) :: xs).Nodup := List.nodup_cons.2 ⟨hnm, h.nodup⟩
    have := hnd.length_le_of_subset (l₂ := (List.range n).map (fun i : Nat => (i : Int))) (fun x hxx => by
      rw [List.mem_map]
      rcases List.mem_cons.1 hxx with e | hm
      · exact ⟨v, by rw [List.mem_range]; exact hv, e.symm⟩
      · obtain ⟨j, hj, e⟩ := List.getElem_of_mem hm
        have := h.2.1 j (by have := h.1; omega)
        rw [nth_eq hj, e] at this
        exact ⟨x.toNat, by rw [List.mem_range]; omega, by omega⟩)
    simp at this
    have := h.1
    omega
/-- ys leads back, as far as the first k. -/
def BackP (xs ys : List Int) (n k : Nat) : Prop := ys.length = n ∧ ∀ i, i < k → nth ys (nth xs i).toNat = (i : Int)
theorem BackP.step {xs ys : List Int} {n k : Nat} (h : PermP xs n) (hb : BackP xs ys n k) (hk : k < n) : BackP xs (ys.set (nth xs k).toNat (k : Int)) n (k + 1) := by
  refine ⟨by rw [List.length_set]; exact hb.1, fun i hi => ?_⟩
  have hxk := h.2.1 k hk
  have hxi := h.2.1 i (by omega)
  by_cases e : i = k
  · subst e; rw [nth_set_same (by rw [hb.1]; omega)]
  · rw [nth_set_other (fun e2 => h.2.2 i k (by omega) hk (by omega))]
    exact hb.2 i (by omega)
theorem BackP.perm {xs ys : List Int} {n : Nat} (h : PermP xs n) (hb : BackP xs ys n n) : PermP ys n := by
  refine ⟨hb.1, fun v hv => ?_, fun v u hvu hu => ?_⟩
  · obtain ⟨j, hj, e⟩ := h.onto hv
    have := hb.2 j hj
    rw [e, Int.toNat_natCast] at this
    omega
  · obtain ⟨j, hj, e⟩ := h.onto (show v < n by omega)
    obtain ⟨i, hi, e2⟩ := h.onto hu
    have a := hb.2 j hj
    have b := hb.2 i hi
    rw [e, Int.toNat_natCast] at a
    rw [e2, Int.toNat_natCast] at b
    intro e3
    have : j = i := by omega
    subst this
    omega
theorem BackP.there {xs ys : List Int} {n : Nat} (h : PermP xs n) (hb : BackP xs ys n n) {v : Nat} (hv : v < n) : nth xs (nth ys v).toNat = (v : Int) := by
  obtain ⟨j, hj, e⟩ := h.onto hv
  have := hb.2 j hj
  rw [e, Int.toNat_natCast] at this
  rw [this, Int.toNat_natCast]
  exact e
theorem ord_true {L : List (List Int)} {xs : List Int} (hG : GraphP L) (h : PermP xs L.length) : orderB L xs = true := by
  unfold orderB
  rw [decide_eq_true hG, decide_eq_true h.ord]
  rfl
theorem ren_graph {L : List (List Int)} {xs : List Int} (hG : GraphP L) (h : PermP xs L.length) : GraphP (adjL xs.length (pickA L xs)) ∧ (adjL xs.length (pickA L xs)).length = L.length := by
  have hz := hG.1
  have := h.1
  exact ⟨pick_graph hG (by omega) (by omega), by rw [adjL_len]; exact h.1⟩
theorem ren_near {L : List (List Int)} {xs : List Int} (hG : GraphP L) (h : PermP xs L.length) {i j : Nat} (hi : i < L.length) (hj : j < L.length) : adjB (adjL xs.length (pickA L xs)) i j = adjB L (nth xs i).toNat (nth xs j).toNat := by
  have hz := hG.1
  have hl := h.1
  rw [adjB_adjL (ren_graph hG h).1 (by omega) (by omega)]
  unfold pickA
  rw [decide_eq_true (by omega), decide_eq_true (by omega)]
  rfl
theorem ren_back {L : List (List Int)} {xs ys : List Int} (hG : GraphP L) (h : PermP xs L.length) (hb : BackP xs ys L.length L.length) : adjL ys.length (pickA (adjL xs.length (pickA L xs)) ys) = L := by
  have hz := hG.1
  have hp := hb.perm h
  have hg := ren_graph hG h
  have hy := hp.1
  conv => rhs; rw [← graph_adjL hG]
  rw [hy]
  refine adjL_congr (fun i hi j hj => ?_)
  show (decide (i < ys.length) && decide (j < ys.length) && adjB (adjL xs.length (pickA L xs)) (nth ys i).toNat (nth ys j).toNat) = adjB L i j
  rw [decide_eq_true (p := i < ys.length) (by omega), Bool.true_and]
  by_cases hjl : j < L.length
  · rw [decide_eq_true (p := j < ys.length) (by omega), Bool.true_and]
    have a := hp.2.1 i hi
    have b := hp.2.1 j hjl
    rw [ren_near hG h (by omega) (by omega), hb.there h hi, hb.there h hjl, Int.toNat_natCast, Int.toNat_natCast]
  · rw [decide_eq_false (p := j < ys.length) (by omega), Bool.false_and]
    symm
    rw [← Bool.not_eq_true]
    intro hh
    exact hjl (adjB_range hG hh).2
theorem ren_alike {L : List (List Int)} {xs : List Int} (hG : GraphP L) (h8 : L.length ≤ 8) (h : PermP xs L.length) : alB L (adjL xs.length (pickA L xs)) = true := by
  have hz := hG.1
  obtain ⟨hg, hl⟩ := ren_graph hG h
  unfold alB
  rw [decide_eq_true_iff]
  refine ⟨⟨hG, h8⟩, ⟨hg, by omega⟩, hl.symm, fun e => ?_⟩
  have : xs ∈ stands (adjL xs.length (pickA L xs)) L := by
    unfold stands
    rw [fits_mem hz.2]
    refine ⟨by rw [hl]; exact h.1, fun i hi => ?_⟩
    rw [hl] at hi
    have a := h.2.1 i hi
    refine ⟨a.1, a.2, fun j hj => h.2.2 j i hj hi, fun j hj => ?_⟩
    exact ren_near hG h (by omega) hi
  rw [e] at this
  simp at this
theorem back_of {xs : List Int} {n : Nat} (h : PermP xs n) : ∃ ys, BackP xs ys n n := by
  have : ∀ k, k ≤ n → ∃ ys, BackP xs ys n k := by
    intro k
    induction k with
    | zero => intro _; exact ⟨List.replicate n 0, by simp, fun i hi => absurd hi (by omega)⟩
    | succ k ih =>
      intro hk
      obtain ⟨ys, hy⟩ := ih (by omega)
      exact ⟨_, hy.step h (by omega)⟩
  exact this n (Nat.le_refl _)

end Go.Proofs.Ytmfolclpddoplaa

/- Walks: an order rolled. -/
namespace Go.Proofs.Ytmfolclpddoplaa
open Go.RowKit

/-- The row while all behind place i has gone one place on. -/
def shL (xs : List Int) (i : Nat) : List Int := (List.range (xs.length + 1)).map (fun j => if j ≤ i then nth (xs ++ [0]) j else nth xs (j - 1))
theorem shL_len (xs : List Int) (i : Nat) : (shL xs i).length = xs.length + 1 := by simp [shL]
theorem shL_nth {xs : List Int} {i j : Nat} (hj : j < xs.length + 1) : nth (shL xs i) j = if j ≤ i then nth (xs ++ [0]) j else nth xs (j - 1) := by
  rw [nth_eq (by rw [shL_len]; exact hj)]; simp [shL]
theorem shL_start (xs : List Int) : shL xs xs.length = xs ++ [0] := nth_ext (by rw [shL_len]; simp) (fun j hj => by
  rw [shL_len] at hj
  rw [shL_nth hj, if_pos (by omega)])
theorem shL_step {xs : List Int} {i : Nat} (hi : i + 1 ≤ xs.length) : (shL xs (i + 1)).set (i + 1) (nth xs i) = shL xs i := nth_ext (by rw [List.length_set, shL_len, shL_len]) (fun j hj => by
  rw [List.length_set, shL_len] at hj
  by_cases e : j = i + 1
  · subst e
    rw [nth_set_same (by rw [shL_len]; omega), shL_nth hj, if_neg (by omega), Nat.add_sub_cancel]
  · rw [nth_set_other (by omega), shL_nth hj, shL_nth hj]
    by_cases h1 : j ≤ i
    · rw [if_pos h1, if_pos (by omega)]
    · rw [if_neg h1, if_neg (by omega)])
theorem shL_at {xs : List Int} {i : Nat} (hi : i + 1 ≤ xs.length) : nth (shL xs (i + 1)) i = nth xs i := by
  rw [shL_nth (by omega), if_pos (by omega)]
  simp [nth, List.getD_eq_getElem?_getD, List.getElem?_append_left (show i < xs.length by omega)]
theorem app_nth {xs : List Int} {x : Int} {j : Nat} (h : j < xs.length) : nth (xs ++ [x]) j = nth xs j := by
  simp [nth, List.getD_eq_getElem?_getD, List.getElem?_append_left h]
theorem perm_insert {xs : List Int} {m k : Nat} (h : PermP xs m) (hk : k ≤ m) : PermP ((shL xs k).set k (m : Int)) (m + 1) := by
  obtain ⟨h1, h2, h3⟩ := h
  have hl : ((shL xs k).set k (m : Int)).length = m + 1 := by rw [List.length_set, shL_len, h1]
  have hn : ∀ j, j < m + 1 → nth ((shL xs k).set k (m : Int)) j = if j < k then nth xs j else if j = k then (m : Int) else nth xs (j - 1) := fun j hj => by
    by_cases e : j = k
    · subst e
      rw [nth_set_same (by rw [shL_len]; omega), if_neg (by omega), if_pos rfl]
    · rw [nth_set_other (by omega), shL_nth (by omega)]
      by_cases h4 : j < k
      · rw [if_pos (by omega), if_pos h4, app_nth (by omega)]
      · rw [if_neg (by omega), if_neg h4, if_neg e]
  refine ⟨hl, fun i hi => ?_, fun i j hij hj => ?_⟩
  · rw [hn i hi]
    split
    · have := h2 i (by omega); omega
    · split
      · omega
      · have := h2 (i - 1) (by omega); omega
  · rw [hn i (by omega), hn j hj]
    by_cases a : i < k
    · rw [if_pos a]
      by_cases b : j < k
      · rw [if_pos b]; exact h3 i j hij (by omega)
      · rw [if_neg b]
        by_cases c : j = k
        · rw [if_pos c]; have := h2 i (by omega); omega
        · rw [if_neg c]; exact h3 i (j - 1) (by omega) (by omega)
    · rw [if_neg a]
      by_cases c : i = k
      · rw [if_pos c, if_neg (by omega), if_neg (by omega)]
        have := h2 (j - 1) (by omega); omega
      · rw [if_neg c, if_neg (by omega), if_neg (by omega)]
        exact h3 (i - 1) (j - 1) (by omega) (by omega)
theorem perm_i64 {xs : List Int} {m : Nat} (h : PermP xs m) (hm : m ≤ 16) : ∀ x ∈ xs, I64 x := fun x hx => by
  obtain ⟨i, hi, e⟩ := List.getElem_of_mem hx
  have := h.2.1 i (by have := h.1; omega)
  rw [nth_eq hi, e] at this
  unfold I64; omega

/-- An order has been rolled. -/
def RolledOrd (w : World) (d : Nat) (bv : Value) (n m : Nat) (e : Ending) (w' : World) : Prop :=
  ∃ xs a k c, e = .returned (.slice a k c) ∧ PermP xs m ∧ OwnRow 2 w' w.heap.size (.slice a k c) xs ∧ DiceAt w' d bv n ∧ Touched d (d + 1) w w'

theorem OwnRow.only2 {T : TypeId} {w w' : World} {B d : Nat} {v : Value} {xs : List Int} (h : OwnRow T w B v xs) (ho : OnlyBlk d w w') (hd : d < B) : OwnRow T w' B v xs := by
  obtain ⟨h1, h2, h3⟩ := h
  refine ⟨h1, h2, ?_⟩
  rcases h3 with h3 | ⟨g, cap, cur, e, hg, hh, r⟩
  · exact Or.inl h3
  · exact Or.inr ⟨g, cap, cur, e, hg, by rw [ho.other g (by omega)]; exact hh, r⟩

set_option maxHeartbeats 2000000 in
set_option maxRecDepth 100000 in
theorem w5Order_any (d n m : Nat) (bv : Value) (w : World) (hd : DiceAt w d bv n) (hb : BytesAt w d bv n) (hm : m ≤ 16) : Calls Try.prog 16 #[.pointer (some ⟨d, 0, none⟩), .int .i64 (m : Int)] w (RolledOrd w d bv n m) := by
  obtain ⟨i0, hi, hz0, hz1, hz2⟩ := info_parts Try.infoI
  have hdl := hd.lt
  have HO0 : Hid (OwnRow 2 (w.alloc (.cells #[] 2)) w.heap.size (.slice (some ⟨w.heap.size, 0, none⟩) 0 0) []) := ⟨by simp, by simp, .inr ⟨w.heap.size, 0, #[], rfl, Nat.le_refl _, heap_alloc_new w _, Nat.zero_le _, Nat.zero_le _, rfl, fun i hi => absurd hi (by simp)⟩⟩
  have HD0 := Lib.hid (hd.keep ((Below.refl _ _).alloc (Nat.le_refl _) (.cells #[] 2)))
  have HBY := Lib.hid hb
  clear hd hb
  go_enter Try.func16, Try.ntmps16
  go_wp2_with fail
  go_loopw [5, 6] (fun s i wr => ∃ k : Nat, k ≤ m ∧ i = .int .i64 k ∧ (∃ xs a c, s = .slice a k c ∧ PermP xs k ∧ OwnRow 2 wr w.heap.size (.slice a k c) xs) ∧ DiceAt wr d bv n ∧ Touched d (d + 1) w wr) (fun _ i _ => m - (intOf i).toNat)
  case atStart => exact ⟨0, Nat.zero_le _, rfl, ⟨[], some ⟨w.heap.size, 0, none⟩, 0, rfl, ⟨rfl, fun i hi => absurd hi (by omega), fun i j _ hj => absurd hj (by omega)⟩, HO0.out⟩, HD0.out, Touched.ofBelow ((Below.refl _ _).alloc (Nat.le_refl _) _)⟩
  case round =>
    clear HO0 HD0
    obtain ⟨k, hk, rfl, ⟨xs, a, c, rfl, hpx, ho⟩, hdi, ht⟩ := hrel
    have HPX := Lib.hid hpx
    have HO := Lib.hid ho
    have HDI := Lib.hid hdi
    have HT := Lib.hid ht
    clear hpx ho hdi ht
    by_cases hlt : k < m
    · have hwk : IntKind.i64.wrap ((k : Int) + 1) = (k : Int) + 1 := IntWalk.i64_in _ (by omega)
      go_wp2_with fail
      refine (below_any d n bv ((k : Int) + 1) _ HDI.out (HT.out.bytes HBY.out (Nat.le_of_lt hdl)) (by omega) (by unfold I64; omega)).mono ?_
      rintro e w1 ⟨x, rfl, hx, hd1, ho1⟩
      obtain ⟨q, rfl⟩ : ∃ q : Nat, x = (q : Int) := ⟨x.toNat, by have := (hx.2 (by omega)).1; omega⟩
      have hqk : q ≤ k := by have := (hx.2 (by omega)).2; omega
      have HO1 := Lib.hid (HO.out.only2 ho1 hdl)
      have HD1 := Lib.hid hd1
      have HT1 := Lib.hid (HT.out.only ho1)
      have hz1' : w.heap.size ≤ w1.heap.size := HT1.out.size
      have HBA : Hid (Below w1.heap.size w1 (w1.alloc (.cells #[.int .i64 0] 2))) := (Below.refl _ _).alloc (Nat.le_refl _) _
      clear hx hd1 ho1
      have hxl : xs.length = k := HPX.out.1
      have HOW := Lib.hid HO1.out.owns
      go_wp2_with (at_builtin; refine wpList_append_own _ rfl (.tmp 20) (.tmp 21) 31 rfl w.heap.size 2 i0 (.int .i64 0) 1 8 Try.underlying31 hi hz0 hz1 hz2 rfl (by decide) _ _ _ rfl (HOW.out.alloc _) ⟨w1.heap.size, 0, none⟩ 1 1 [.int .i64 0] rfl rfl ?d1 ?d2 ?d3 ?d4 ?d5 ?_)
      case d1 =>
        intro j u hj
        match j, hj with
        | 0, hj => simp at hj; subst hj; simp [Addr.add]
      case d2 => intro u hu; simp at hu; subst hu; rfl
      case d3 => unfold maxLen; omega
      case d4 => omega
      case d5 => simp; omega
      intro v4 w4 hown4 hgrow4 _
      have hb4 : Below w.heap.size w1 w4 := (HBA.out.mono hz1').grown hgrow4 (by simp; omega) (fun j hj => (HO1.out.lt j hj).1)
      have ho4 : OwnRow 2 w4 w.heap.size v4 (xs ++ [0]) := OwnRow.of_ownsRow (n := k + 1) (by simpa using hown4) (by simp; unfold maxLen; omega) (fun x hx => by
        rcases List.mem_append.1 hx with h | h
        · exact perm_i64 HPX.out (by omega) x h
        · simp at h; subst h; unfold I64; omega)
      obtain ⟨g, cap, e4, hgB, hgl, hc1, hc2⟩ := ho4.posB (by simp)
      subst e4
      simp only [List.length_append, List.length_singleton, hxl] at ho4 hc1 ⊢
      have HO4 : Hid (OwnRow 2 w4 w.heap.size (.slice (some ⟨g, 0, none⟩) (k + 1) cap) (shL xs k)) := by show OwnRow _ _ _ _ _; have := shL_start xs; rw [hxl] at this; rw [this]; exact ho4
      have HD4 := Lib.hid (HD1.out.keepB hb4 hdl)
      have HT4 := Lib.hid (HT1.out.under hb4 (Nat.le_refl _))
      have hwk2 : IntKind.i64.wrap ((k : Int) + 1 - 1) = (k : Int) := by rw [show (k : Int) + 1 - 1 = (k : Int) from by omega]; exact IntWalk.i64_in _ (by omega)
      clear hown4 hgrow4 hb4 ho4 HO1 HD1 HT1 HBA HOW
      go_wp2_with fail
      go_loopw [8] (fun iv wx => ∃ i : Nat, q ≤ i ∧ i ≤ k ∧ iv = .int .i64 i ∧ OwnRow 2 wx w.heap.size (.slice (some ⟨g, 0, none⟩) (k + 1) cap) (shL xs i) ∧ DiceAt wx d bv n ∧ Touched d (d + 1) w wx) (fun iv _ => (intOf iv).toNat - q)
      case atStart => exact ⟨k, hqk, Nat.le_refl _, by simp, HO4.out, HD4.out, HT4.out⟩
      case round =>
        clear HO4 HD4 HT4
        rename World => wx
        obtain ⟨i, hqi, hik, rfl, ho, hdi, ht⟩ := hrel
        by_cases hgt : q < i
        · obtain ⟨j, rfl⟩ : ∃ j, i = j + 1 := ⟨i - 1, by omega⟩
          have hcj := ho.cells' j (by rw [shL_len]; omega)
          rw [shL_at (by omega)] at hcj
          have hxj := HPX.out.2.1 j (by omega)
          obtain ⟨l1, l2, l3, l4⟩ := ho.laidAt' (by rw [shL_len, hxl]) (k := j + 1) (by omega) (z := nth xs j) (by unfold I64; omega)
          rw [shL_step (by omega)] at l1
          have HL1 := Lib.hid l1
          have HDJ : Hid (DiceAt (wx.setCell ⟨g, j + 1, none⟩ (.int .i64 (nth xs j))) d bv n) := hdi.keepB (B := w.heap.size) ((Below.refl _ _).setCell (p := ⟨g, j + 1, none⟩) hgB _) hdl
          have HTJ : Hid (Touched d (d + 1) w (wx.setCell ⟨g, j + 1, none⟩ (.int .i64 (nth xs j)))) := ht.under ((Below.refl w.heap.size _).setCell (p := ⟨g, j + 1, none⟩) hgB _) (Nat.le_refl _)
          have hwj : IntKind.i64.wrap (((j + 1 : Nat) : Int) - 1) = (j : Int) := by rw [show ((j + 1 : Nat) : Int) - 1 = (j : Int) from by omega]; exact IntWalk.i64_in _ (by omega)
          have hc3 : ((j + 1 : Nat) : Int) > (q : Int) := by omega
          clear ho hdi ht l1
          go_wp2
          go_roundw
          case rel => exact ⟨j, by omega, by omega, by go_num, HL1.out, HDJ.out, HTJ.out⟩
          case measure => simp [intOf]; omega
        · obtain rfl : i = q := by omega
          obtain ⟨l1, l2, l3, l4⟩ := ho.laidAt' (by rw [shL_len, hxl]) (k := i) (by omega) (z := (k : Int)) (by unfold I64; omega)
          have HL1 := Lib.hid l1
          have HPI := Lib.hid (perm_insert (k := i) HPX.out (by omega))
          have HDJ : Hid (DiceAt (wx.setCell ⟨g, i, none⟩ (.int .i64 (k : Int))) d bv n) := hdi.keepB (B := w.heap.size) ((Below.refl _ _).setCell (p := ⟨g, i, none⟩) hgB _) hdl
          have HTJ : Hid (Touched d (d + 1) w (wx.setCell ⟨g, i, none⟩ (.int .i64 (k : Int)))) := ht.under ((Below.refl w.heap.size _).setCell (p := ⟨g, i, none⟩) hgB _) (Nat.le_refl _)
          clear ho hdi ht l1
          go_wp2
          go_roundw
          case rel => exact ⟨k + 1, by omega, by go_num, ⟨_, _, _, rfl, HPI.out, HL1.out⟩, HDJ.out, HTJ.out⟩
          case measure => simp [intOf]; omega
    · obtain rfl : k = m := by omega
      go_wp2
      go_ret
      exact ⟨xs, _, _, _, rfl, HPX.out, HO.out, HDI.out, HT.out⟩

end Go.Proofs.Ytmfolclpddoplaa
