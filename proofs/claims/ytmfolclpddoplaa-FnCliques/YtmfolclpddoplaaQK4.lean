/- The texts K4, CM1, CW1, CM2, joined. -/
import Derived.Test.YtmfolclpddoplaaQA1
import Derived.Test.YtmfolclpddoplaaQCL5
import Derived.Test.YtmfolclpddoplaaQU4
import Derived.Test.YtmfolclpddoplaaQCL7
import Derived.Test.YtmfolclpddoplaaEC2
import Derived.BigQuiet

/- Walks: the laws' tests of lists, written by program out of A4's (the same code under other names). -/
namespace Go.Proofs.Ytmfolclpddoplaa
open Go.RowKit

set_option maxHeartbeats 400000 in
theorem likeInts_any (v v' : Value) (xs ys : List Int) (w : World) (h : RowAt w v xs) (h' : RowAt w v' ys) :
    Calls Try.prog 22 #[v, v'] w fun e w' => e = .returned (.bool (decide (xs = ys))) ∧ Drawn w w' := by
  have hl := h.len
  have hl' := h'.len
  unfold maxLen at hl hl'
  by_cases hn : xs.length = ys.length
  · have hne : ((xs.length : Int) != (ys.length : Int)) = false := by rw [hn]; simp
    by_cases h0 : xs.length = 0
    · have hd : decide (xs = ys) = true := by rw [decide_eq_true_iff, List.length_eq_zero_iff.1 h0, List.length_eq_zero_iff.1 (by omega : ys.length = 0)]
      rw [hd]
      obtain ⟨a, c, rfl⟩ := h.zero h0
      obtain ⟨a', c', rfl⟩ := h'.zero (by omega)
      clear hn hne h h' h0 hl hl' hd
      go_enter Try.func22, Try.ntmps22
      go_wp2
      refine wp_loop_rounds 1 ?_
      rw [rounds_succ]
      go_wp2
      go_ret
      exact ⟨rfl, Drawn.refl _⟩
    · obtain ⟨b, o, c, rfl, l1, l2, hc⟩ := h.pos (by omega)
      obtain ⟨b', o', c', rfl, l1', l2', hc'⟩ := h'.pos (by omega)
      have HC := Lib.hid hc
      have HC' := Lib.hid hc'
      have HN := Lib.hid hn
      have hle : xs.length ≤ ys.length := by omega
      clear hc hc' hn h0
      go_enter Try.func22, Try.ntmps22
      go_wp2
      go_loopw [5] (fun i wr => ∃ k : Nat, k ≤ xs.length ∧ i = .int .i64 k ∧ (∀ j, j < k → nth xs j = nth ys j) ∧ Drawn w wr) (fun i _ => xs.length - (intOf i).toNat)
      case atStart => exact ⟨0, Nat.zero_le _, rfl, (fun j hj => absurd hj (by omega)), Drawn.refl _⟩
      case round =>
        obtain ⟨k, hk, rfl, he, hd⟩ := hrel
        have HE := Lib.hid he
        clear he
        by_cases hlt : k < xs.length
        · have hlt' : k < ys.length := by omega
          have hck := cell_drawn hd (HC.out k hlt)
          have hck' := cell_drawn hd (HC'.out k hlt')
          by_cases hx : nth xs k = nth ys k
          · have hxb : (nth xs k != nth ys k) = false := by rw [hx]; simp
            have HX := Lib.hid hx
            clear hx
            go_wp2
            go_quiet (fail)
            go_wp2
            go_roundw
            case rel => exact ⟨k + 1, by omega, by go_num, (fun j hj => by rcases Nat.lt_succ_iff_lt_or_eq.1 hj with h | h; exact HE.out j h; rw [h]; exact HX.out), hd.more _⟩
            case measure => simp [intOf]; omega
          · have hxb : (nth xs k != nth ys k) = true := by rw [bne_iff_ne]; exact hx
            have HX := Lib.hid hx
            clear hx
            go_wp2
            go_quiet (fail)
            go_wp2
            go_ret
            exact ⟨ret_bool (by symm; rw [decide_eq_false_iff_not]; intro e; exact HX.out (by rw [e])), hd.more _⟩
        · obtain rfl : k = xs.length := by omega
          go_wp2
          go_ret
          exact ⟨ret_bool (by symm; rw [decide_eq_true_iff]; exact nth_ext HN.out HE.out), hd⟩
  · have hne : ((xs.length : Int) != (ys.length : Int)) = true := by rw [bne_iff_ne]; omega
    have hd : decide (xs = ys) = false := by simp; intro e; exact hn (by rw [e])
    rw [hd]
    obtain ⟨a, c, rfl⟩ := h.slice
    obtain ⟨a', c', rfl⟩ := h'.slice
    go_enter Try.func22, Try.ntmps22
    go_wp2
    go_ret
    exact ⟨rfl, Drawn.refl _⟩

set_option maxHeartbeats 400000 in
theorem w5Lists_any (v v' : Value) (xs ys : List (List Int)) (w : World) (h : GridAt w v xs) (h' : GridAt w v' ys) :
    Calls Try.prog 31 #[v, v'] w fun e w' => e = .returned (.bool (decide (xs = ys))) ∧ Drawn w w' := by
  have hl := h.len
  have hl' := h'.len
  unfold maxLen at hl hl'
  by_cases hn : xs.length = ys.length
  · have hne : ((xs.length : Int) != (ys.length : Int)) = false := by rw [hn]; simp
    by_cases h0 : xs.length = 0
    · have hd : decide (xs = ys) = true := by rw [decide_eq_true_iff, List.length_eq_zero_iff.1 h0, List.length_eq_zero_iff.1 (by omega : ys.length = 0)]
      rw [hd]
      obtain ⟨a, c, rfl⟩ := h.zero h0
      obtain ⟨a', c', rfl⟩ := h'.zero (by omega)
      clear hn hne h h' h0 hl hl' hd
      go_enter Try.func31, Try.ntmps31
      go_wp2
      refine wp_loop_rounds 1 ?_
      rw [rounds_succ]
      go_wp2
      go_ret
      exact ⟨rfl, Drawn.refl _⟩
    · obtain ⟨b, o, c, A, C, rfl, l1, l2, hc⟩ := h.pos (by omega)
      obtain ⟨b', o', c', A', C', rfl, l1', l2', hc'⟩ := h'.pos (by omega)
      have HC := Lib.hid hc
      have HC' := Lib.hid hc'
      have HN := Lib.hid hn
      have hle : xs.length ≤ ys.length := by omega
      clear hc hc' hn h0
      go_enter Try.func31, Try.ntmps31
      go_wp2
      go_loopw [5] (fun i wr => ∃ k : Nat, k ≤ xs.length ∧ i = .int .i64 k ∧ (∀ j, j < k → nthR xs j = nthR ys j) ∧ Drawn w wr) (fun i _ => xs.length - (intOf i).toNat)
      case atStart => exact ⟨0, Nat.zero_le _, rfl, (fun j hj => absurd hj (by omega)), Drawn.refl _⟩
      case round =>
        obtain ⟨k, hk, rfl, he, hd⟩ := hrel
        have HE := Lib.hid he
        clear he
        by_cases hlt : k < xs.length
        · have hlt' : k < ys.length := by omega
          have hck := cell_drawn hd (HC.out k hlt).1
          have hck' := cell_drawn hd (HC'.out k hlt').1
          have hr := Lib.hid ((HC.out k hlt).2.drawn hd)
          have hr' := Lib.hid ((HC'.out k hlt').2.drawn hd)
          by_cases hx : nthR xs k = nthR ys k
          · have hxb : decide (nthR xs k = nthR ys k) = true := by rw [hx]; simp
            have hcall : ∀ n, Calls Try.prog 22 #[.slice (A k) (nthR xs k).length (C k), .slice (A' k) (nthR ys k).length (C' k)] (wr.drewN n) fun e w2 => e = .returned (.bool true) ∧ ∃ m, w2 = (wr.drewN n).drewN m :=
              fun n => (likeInts_any _ _ _ _ _ (hr.out.drewN n) (hr'.out.drewN n)).mono (by rintro e w2 ⟨rfl, hd2⟩; exact ⟨by rw [hxb], hd2⟩)
            have HCall := Lib.hid hcall
            clear hcall hxb
            have HX := Lib.hid hx
            clear hx
            go_wp2
            go_quiet ((go_at_call 22; exact Calls.quiet_of (HCall.out _)))
            go_wp2
            go_roundw
            case rel => exact ⟨k + 1, by omega, by go_num, (fun j hj => by rcases Nat.lt_succ_iff_lt_or_eq.1 hj with h | h; exact HE.out j h; rw [h]; exact HX.out), hd.more _⟩
            case measure => simp [intOf]; omega
          · have hxb : decide (nthR xs k = nthR ys k) = false := by rw [decide_eq_false_iff_not]; exact hx
            have hcall : ∀ n, Calls Try.prog 22 #[.slice (A k) (nthR xs k).length (C k), .slice (A' k) (nthR ys k).length (C' k)] (wr.drewN n) fun e w2 => e = .returned (.bool false) ∧ ∃ m, w2 = (wr.drewN n).drewN m :=
              fun n => (likeInts_any _ _ _ _ _ (hr.out.drewN n) (hr'.out.drewN n)).mono (by rintro e w2 ⟨rfl, hd2⟩; exact ⟨by rw [hxb], hd2⟩)
            have HCall := Lib.hid hcall
            clear hcall hxb
            have HX := Lib.hid hx
            clear hx
            go_wp2
            go_quiet ((go_at_call 22; exact Calls.quiet_of (HCall.out _)))
            go_wp2
            go_ret
            exact ⟨ret_bool (by symm; rw [decide_eq_false_iff_not]; intro e; exact HX.out (by rw [e])), hd.more _⟩
        · obtain rfl : k = xs.length := by omega
          go_wp2
          go_ret
          exact ⟨ret_bool (by symm; rw [decide_eq_true_iff]; exact nthR_ext HN.out HE.out), hd⟩
  · have hne : ((xs.length : Int) != (ys.length : Int)) = true := by rw [bne_iff_ne]; omega
    have hd : decide (xs = ys) = false := by simp; intro e; exact hn (by rw [e])
    rw [hd]
    obtain ⟨a, c, rfl⟩ := h.slice
    obtain ⟨a', c', rfl⟩ := h'.slice
    go_enter Try.func31, Try.ntmps31
    go_wp2
    go_ret
    exact ⟨rfl, Drawn.refl _⟩


end Go.Proofs.Ytmfolclpddoplaa

/- Plain facts: what is found are the cliques that cannot be extended, each once; in a chordal graph there are no more of them than vertices. -/
namespace Go.Proofs.Ytmfolclpddoplaa
open Go.RowKit

/-- All of a list are near each other. -/
def PairN (A : Nat → Nat → Bool) (z : List Int) : Prop := ∀ x ∈ z, ∀ y ∈ z, x ≠ y → A x.toNat y.toNat = true
/-- What holds in the midst of the search. -/
structure CqInv (A : Nat → Nat → Bool) (n : Nat) (set left out : List Int) : Prop where
  cl : PairN A set
  lf : ∀ x ∈ set, ∀ y ∈ left, A x.toNat y.toNat = true
  al : ∀ v : Nat, v < n → (v : Int) ∉ set → (∀ x ∈ set, A x.toNat v = true) → (v : Int) ∈ left ∨ (v : Int) ∈ out
theorem CqInv.next {A : Nat → Nat → Bool} {n : Nat} {set left out : List Int} (h : CqInv A n set left out) (hs : ∀ i j, A i j = A j i) {i : Nat} (hi : i < left.length) :
    CqInv A n (set ++ [nth left i]) (meetA A (left.drop (i + 1)) (nth left i)) (meetA A (out ++ left.take i) (nth left i)) := by
  have hx := nth_mem hi
  refine ⟨fun x hx1 y hy1 hne => ?_, fun x hx1 y hy1 => ?_, fun v hv hn ha => ?_⟩
  · rcases List.mem_append.1 hx1 with h1 | h1
    · rcases List.mem_append.1 hy1 with h2 | h2
      · exact h.cl x h1 y h2 hne
      · rw [List.mem_singleton] at h2; subst h2; exact h.lf x h1 _ hx
    · rw [List.mem_singleton] at h1; subst h1
      rcases List.mem_append.1 hy1 with h2 | h2
      · rw [hs]; exact h.lf y h2 _ hx
      · rw [List.mem_singleton] at h2; exact absurd h2.symm hne
  · obtain ⟨h1, h2⟩ := meetA_mem.1 hy1
    rcases List.mem_append.1 hx1 with h3 | h3
    · exact h.lf x h3 y (List.mem_of_mem_drop h1)
    · rw [List.mem_singleton] at h3; subst h3; exact h2
  · have hn1 : (v : Int) ∉ set := fun e => hn (List.mem_append_left _ e)
    have hn2 : (v : Int) ≠ nth left i := fun e => hn (List.mem_append_right _ (by rw [e]; exact List.mem_cons_self))
    have hax : A (nth left i).toNat ((v : Int).toNat) = true := by rw [Int.toNat_natCast]; exact ha _ (List.mem_append_right _ List.mem_cons_self)
    rcases h.al v hv hn1 (fun x hx => ha x (List.mem_append_left _ hx)) with h1 | h1
    · obtain ⟨j, hj, e⟩ := List.getElem_of_mem h1
      rcases Nat.lt_trichotomy j i with hji | hji | hji
      · right
        refine meetA_mem.2 ⟨List.mem_append_right _ ?_, hax⟩
        have hjl : j < (left.take i).length := by rw [List.length_take]; omega
        have : (left.take i)[j] = (v : Int) := by rw [List.getElem_take]; exact e
        rw [← this]; exact List.getElem_mem hjl
      · subst hji
        exact absurd (by rw [nth_eq hj]; exact e.symm) hn2
      · left
        refine meetA_mem.2 ⟨?_, hax⟩
        have hjl : j - (i + 1) < (left.drop (i + 1)).length := by rw [List.length_drop]; omega
        have : (left.drop (i + 1))[j - (i + 1)] = (v : Int) := by
          rw [List.getElem_drop]
          simp only [show i + 1 + (j - (i + 1)) = j by omega]
          exact e
        rw [← this]; exact List.getElem_mem hjl
    · right
      exact meetA_mem.2 ⟨List.mem_append_left _ h1, hax⟩
theorem cqF_max {A : Nat → Nat → Bool} {n : Nat} (hs : ∀ i j, A i j = A j i) : ∀ (f : Nat) (set left out : List Int), CqInv A n set left out → ∀ z ∈ cqF A f set left out, PairN A z ∧ (∀ v : Nat, v < n → (v : Int) ∉ z → ∃ x ∈ z, A x.toNat v = false) ∧ set <+: z
  | 0, _, _, _, _ => fun z hz => by simp [cqF] at hz
  | f + 1, set, left, out, h => fun z hz => by
    by_cases hl : left = [] ∧ out = []
    · obtain ⟨rfl, rfl⟩ := hl
      rw [cqF_leaf, List.mem_singleton] at hz
      subst hz
      refine ⟨h.cl, fun v hv hn => ?_, List.prefix_rfl⟩
      rcases Classical.em (∃ x ∈ z, A x.toNat v = false) with he | he
      · exact he
      · exfalso
        rcases h.al v hv hn (fun x hx => by
          cases hq : A x.toNat v with
          | true => rfl
          | false => exact absurd ⟨x, hx, hq⟩ he) with h1 | h1 <;> cases h1
    · rw [cqF_all hl] at hz
      unfold cqTo at hz
      obtain ⟨i, hi, hz⟩ := List.mem_flatMap.1 hz
      rw [List.mem_range] at hi
      obtain ⟨p1, p2, p3⟩ := cqF_max hs f _ _ _ (h.next hs hi) z hz
      exact ⟨p1, p2, (List.prefix_append _ _).trans p3⟩
theorem cqF_pre (A : Nat → Nat → Bool) : ∀ (f : Nat) (set left out : List Int), ∀ z ∈ cqF A f set left out, set <+: z
  | 0, _, _, _ => fun z hz => by simp [cqF] at hz
  | f + 1, set, left, out => fun z hz => by
    by_cases hl : left = [] ∧ out = []
    · obtain ⟨rfl, rfl⟩ := hl
      rw [cqF_leaf, List.mem_singleton] at hz
      subst hz; exact List.prefix_rfl
    · rw [cqF_all hl] at hz
      unfold cqTo at hz
      obtain ⟨i, _, hz⟩ := List.mem_flatMap.1 hz
      exact (List.prefix_append _ _).trans (cqF_pre A f _ _ _ z hz)
theorem cqF_nodup (A : Nat → Nat → Bool) : ∀ (f : Nat) (set left out : List Int), left.Nodup → (cqF A f set left out).Nodup
  | 0, _, _, _, _ => by simp [cqF]
  | f + 1, set, left, out, hd => by
    by_cases hl : left = [] ∧ out = []
    · obtain ⟨rfl, rfl⟩ := hl
      rw [cqF_leaf]; simp
    · rw [cqF_all hl]
      have key : ∀ k, k ≤ left.length → (cqTo A f set left out k).Nodup := by
        intro k
        induction k with
        | zero => intro _; simp [cqTo]
        | succ k ih =>
          intro hk
          rw [cqTo_succ, List.nodup_append]
          refine ⟨ih (by omega), cqF_nodup A f _ _ _ ((hd.sublist (List.drop_sublist _ _)).sublist List.filter_sublist), fun a ha b hb e => ?_⟩
          subst e
          unfold cqTo at ha
          obtain ⟨i, hi, ha⟩ := List.mem_flatMap.1 ha
          rw [List.mem_range] at hi
          obtain ⟨t1, e1⟩ := cqF_pre A f _ _ _ a ha
          obtain ⟨t2, e2⟩ := cqF_pre A f _ _ _ a hb
          have e3 := e1.trans e2.symm
          rw [List.append_assoc, List.append_assoc] at e3
          have e4 := List.append_cancel_left e3
          have e5 : nth left i = nth left k := (List.cons.inj e4).1
          rw [nth_eq (show i < left.length by omega), nth_eq (show k < left.length by omega)] at e5
          exact absurd e5 (List.pairwise_iff_getElem.1 hd i k (by omega) (by omega) hi)
      exact key _ (Nat.le_refl _)
theorem nodup_len {α : Type} [DecidableEq α] : ∀ (Z W : List α), Z.Nodup → (∀ z ∈ Z, z ∈ W) → Z.length ≤ W.length
  | [], _, _, _ => Nat.zero_le _
  | z :: Z, W, hd, hs => by
    rw [List.nodup_cons] at hd
    have h1 : ∀ y ∈ Z, y ∈ W.erase z := fun y hy => by
      have hne : y ≠ z := fun e => hd.1 (e ▸ hy)
      exact (List.mem_erase_of_ne hne).2 (hs y (List.mem_cons_of_mem _ hy))
    have h2 := nodup_len Z (W.erase z) hd.2 h1
    have h3 := List.length_erase_of_mem (hs z List.mem_cons_self)
    have h4 : 0 < W.length := List.length_pos_of_mem (hs z List.mem_cons_self)
    rw [List.length_cons]
    omega

theorem pair_miss {A : Nat → Nat → Bool} {z : List Int} (hd : z.Pairwise (· < ·)) (h : PairN A z) : missN A z = 0 := missN_zero (fun i k hki hil => by
  refine h _ (nth_mem (by omega)) _ (nth_mem hil) (fun e => ?_)
  have := List.pairwise_iff_getElem.1 hd k i (by omega) hil hki
  rw [nth_eq (show k < z.length by omega), nth_eq hil] at e
  omega)
theorem miss_pairN {A : Nat → Nat → Bool} (hs : ∀ i j, A i j = A j i) {z : List Int} (h : missN A z = 0) : PairN A z := fun x hx y hy hne => by
  obtain ⟨i, hi, rfl⟩ := List.getElem_of_mem hx
  obtain ⟨k, hk, rfl⟩ := List.getElem_of_mem hy
  rcases Nat.lt_trichotomy i k with e | e | e
  · have := missN_all h k i e hk
    unfold vtxN at this
    rw [nth_eq hi, nth_eq hk] at this
    exact this
  · subst e; exact absurd rfl hne
  · have := missN_all h i k e hi
    unfold vtxN at this
    rw [nth_eq hi, nth_eq hk] at this
    rw [hs]; exact this
/-- Who is in a set of vertices decides it. -/
theorem set_eq_pm {n : Nat} (hn : n ≤ 16) {z : List Int} (h : SetP z n) {p : Nat → Bool} (hp : ∀ u : Nat, u < 16 → (hasB z (u : Int) = p u)) : z = listM (pm p) := by
  rw [← mkB_list hn h]
  unfold mkB
  rw [pm_congr (fun j hj => hp j hj)]

/-- In a chordal graph the greatest cliques are no more than the vertices. -/
theorem cliques_few {A : Nat → Nat → Bool} {n : Nat} (hA : RelP n A) (hn : 1 ≤ n ∧ n ≤ 16) (hp : pfB A n = true) : (cqF A 17 [] (allL n) []).length ≤ n := by
  have hI : CqInv A n [] (allL n) [] := ⟨fun x hx => absurd hx (by simp), fun x hx => absurd hx (by simp), fun v hv _ _ => Or.inl ((allL_mem _ _).2 ⟨v, hv, rfl⟩)⟩
  have hset : ∀ z ∈ cqF A 17 [] (allL n) [], SetP z n := cqF_sets A 17 [] (allL n) [] (fun i hi => absurd hi (by simp)) (SetP.mk (allL_pair n) (fun x hx => by obtain ⟨i, hi, rfl⟩ := (allL_mem _ _).1 hx; omega)) (fun x hx => absurd hx (by simp))
  have hO : OrdP (poS A n n) n := by rw [← (greedy_po hA hn.2 hp n (Nat.le_refl _)).1]; exact grL_ord _ _
  have htk : ∀ k, k ≤ n → (poS A n n).take k = poS A n k := fun k hk => by
    rw [← (greedy_po hA hn.2 hp n (Nat.le_refl _)).1, ← (greedy_po hA hn.2 hp k hk).1, grL_take _ _ hk]
  have hnk : ∀ k, k < n → ∃ v : Nat, v < n ∧ nth (poS A n n) k = (v : Int) ∧ mayGo A (poS A n k) v = true := fun k hk => by
    obtain ⟨v, hv, e⟩ := ordP_at hO (i := k) (by rw [hO.1]; exact hk)
    refine ⟨v, hv, e, ?_⟩
    have h1 := htk (k + 1) (by omega)
    rw [take_snoc (by rw [hO.1]; exact hk), htk k (by omega), e] at h1
    rw [poS] at h1
    by_cases hf : findTo (mayGo A (poS A n k)) n < n
    · rw [if_pos hf] at h1
      have h2 := List.append_cancel_left h1
      have h3 : (v : Int) = (findTo (mayGo A (poS A n k)) n : Int) := (List.cons.inj h2).1
      have h4 : v = findTo (mayGo A (poS A n k)) n := by omega
      rw [h4]; exact findTo_yes hf
    · rw [if_neg hf] at h1
      have := congrArg List.length h1
      rw [List.length_append, List.length_singleton] at this
      omega
  obtain ⟨C, hC⟩ : ∃ C : Nat → List Int, C = fun k => listM (pm (fun u => u == (nth (poS A n n) k).toNat || leftB A (poS A n k) (nth (poS A n n) k).toNat u)) := ⟨_, rfl⟩
  have hmem : ∀ z ∈ cqF A 17 [] (allL n) [], z ∈ (List.range n).map C := fun z hz => by
    obtain ⟨p1, p2, _⟩ := cqF_max hA.sym 17 [] (allL n) [] hI z hz
    have hs := hset z hz
    have hv := hs.vtx
    have hne : ∃ i, i < (poS A n n).length ∧ nth (poS A n n) i ∈ z := by
      cases hzz : z with
      | nil =>
        obtain ⟨x, hx, _⟩ := p2 0 (by omega) (by rw [hzz]; simp)
        rw [hzz] at hx; cases hx
      | cons a t =>
        have ha := hv a (by rw [hzz]; exact List.mem_cons_self)
        obtain ⟨q1, q2⟩ := ordP_idx hO (v := a.toNat) (by omega)
        refine ⟨_, q1, ?_⟩
        rw [q2, show ((a.toNat : Nat) : Int) = a by omega]
        exact List.mem_cons_self
    obtain ⟨k, hk, hkz, hmin⟩ := first_out (xs := poS A n n) (fun i => nth (poS A n n) i ∈ z) hne
    rw [hO.1] at hk
    obtain ⟨v, hvn, ev, hmg⟩ := hnk k hk
    rw [ev] at hkz
    unfold mayGo at hmg
    rw [Bool.and_eq_true, beq_iff_eq] at hmg
    refine List.mem_map.2 ⟨k, List.mem_range.2 hk, ?_⟩
    rw [hC]
    refine (set_eq_pm hn.2 hs (fun u hu => ?_)).symm
    show hasB z (u : Int) = (u == (nth (poS A n n) k).toNat || leftB A (poS A n k) (nth (poS A n n) k).toNat u)
    rw [ev, Int.toNat_natCast]
    have hsub : ∀ u : Nat, (u : Int) ∈ z → u ≠ v → leftB A (poS A n k) v u = true := fun u hu hne => by
      unfold leftB
      rw [Bool.and_eq_true, Bool.not_eq_true', hasB_false]
      refine ⟨?_, fun hm => ?_⟩
      · have := p1 _ hkz _ hu (by omega)
        rwa [Int.toNat_natCast, Int.toNat_natCast] at this
      · rw [← htk k (by omega)] at hm
        obtain ⟨j, hj, ej⟩ := List.getElem_of_mem hm
        rw [List.length_take, hO.1] at hj
        refine hmin j (by omega) ?_
        rw [List.getElem_take] at ej
        rw [nth_eq (show j < (poS A n n).length by rw [hO.1]; omega), ej]
        exact hu
    rw [Bool.eq_iff_iff, hasB_mem, Bool.or_eq_true, beq_iff_eq]
    constructor
    · intro hm
      by_cases e : u = v
      · exact Or.inl e
      · exact Or.inr (hsub u hm e)
    · rintro (e | e)
      · subst e; exact hkz
      · rcases Classical.em ((u : Int) ∈ z) with hm | hm
        · exact hm
        · exfalso
          have hun := (leftB_range hA _ _ u e)
          obtain ⟨x, hx, hxu⟩ := p2 u hun hm
          have hxb := hv x hx
          have hxe : ((x.toNat : Nat) : Int) = x := by omega
          by_cases exv : x.toNat = v
          · rw [exv] at hxu
            unfold leftB at e
            rw [Bool.and_eq_true] at e
            rw [e.1] at hxu; cases hxu
          · have h1 := hsub x.toNat (by rw [hxe]; exact hx) exv
            have hxne : x.toNat ≠ u := fun e2 => hm (by rw [← e2, hxe]; exact hx)
            have := miss_pair hA hn.2 (leftB_range hA (poS A n k) v) hmg.2 h1 e hxne
            rw [this] at hxu; cases hxu
  have h1 := nodup_len _ _ (cqF_nodup A 17 [] (allL n) [] ((allL_pair n).imp (fun h => by omega))) hmem
  rwa [List.length_map, List.length_range] at h1

/-- All that the law asks of the cliques. -/
theorem clique_facts {L : List (List Int)} (hG : GraphP L) : ∀ z ∈ cqlL L, SetP z L.length ∧ clqB L z = true ∧ (∀ v : Nat, v < L.length → (v : Int) ∉ z → ∀ y, SetP y L.length → (∀ x ∈ z, x ∈ y) → (v : Int) ∈ y → clqB L y = false) := by
  intro z hz
  have hA := adjB_rel hG
  have hzz := hG.1
  rw [show cqlL L = cqF (adjB L) 17 [] (allL L.length) [] from if_pos hG] at hz
  have hI : CqInv (adjB L) L.length [] (allL L.length) [] := ⟨fun x hx => absurd hx (by simp), fun x hx => absurd hx (by simp), fun v hv _ _ => Or.inl ((allL_mem _ _).2 ⟨v, hv, rfl⟩)⟩
  obtain ⟨p1, p2, _⟩ := cqF_max hA.sym 17 [] (allL L.length) [] hI z hz
  have hs := cqF_sets (adjB L) 17 [] (allL L.length) [] (fun i hi => absurd hi (by simp)) (show SetP (allL L.length) (L.length : Int) from SetP.mk (allL_pair L.length) (fun x hx => by obtain ⟨i, hi, rfl⟩ := (allL_mem _ _).1 hx; omega)) (fun x hx => absurd hx (by simp)) z hz
  refine ⟨hs, ?_, fun v hv hn y hy hsub hvy => ?_⟩
  · unfold clqB setB
    rw [decide_eq_true hG, decide_eq_true hs, pair_miss hs.pairwise p1]; rfl
  · cases hq : clqB L y with
    | false => rfl
    | true =>
      exfalso
      unfold clqB at hq
      rw [Bool.and_eq_true, beq_iff_eq] at hq
      have hpn := miss_pairN hA.sym hq.2
      obtain ⟨x, hx, hxv⟩ := p2 v hv hn
      have hne : x ≠ (v : Int) := fun e => hn (by rw [← e]; exact hx)
      have := hpn x (hsub x hx) (v : Int) hvy hne
      rw [Int.toNat_natCast, hxv] at this; cases this

end Go.Proofs.Ytmfolclpddoplaa

/- Walks: what is in one of both lists. -/
namespace Go.Proofs.Ytmfolclpddoplaa
open Go.RowKit

/-- Sorted, without repeating: what is in one of both. -/
def bothMC (xs ys : List Int) : Nat := pm (fun v => hasB xs (v : Int) || hasB ys (v : Int))
def bothLC (xs ys : List Int) : List Int := listM (bothMC xs ys)
theorem bothMC_bit (xs ys : List Int) (k : Nat) (hk : k < 16) : (bothMC xs ys).testBit k = (hasB xs (k : Int) || hasB ys (k : Int)) := by
  unfold bothMC
  rw [pm_bit, decide_eq_true hk]
  rfl

theorem lit1C (w : World) (x : Int) (T : TypeId) : ∀ j u, ([Value.int .i64 x] : List Value)[j]? = some u → (w.alloc (.cells #[.int .i64 x] T)).cell? ((⟨w.heap.size, 0, none⟩ : Addr).add j) = some u := by
  intro j u hj
  match j, hj with
  | 0, hj => simp at hj; subst hj; simp [Addr.add]
theorem one1C (x : Int) : ∀ u ∈ ([Value.int .i64 x] : List Value), u.oneCell' = true := by
  intro u hu; simp at hu; subst hu; rfl

set_option maxHeartbeats 4000000 in
set_option maxRecDepth 100000 in
theorem w5BothC_any (v v1 : Value) (xs ys : List Int) (w : World) (h : RowAt w v xs) (h1 : RowAt w v1 ys) (hl0 : xs.length ≤ 1000) (hl1 : ys.length ≤ 1000) : Calls Try.prog 34 #[v, v1] w (GaveRow w (bothLC xs ys)) := by
  obtain ⟨i0, hi, hz0, hz1, hz2⟩ := info_parts Try.infoI
  obtain ⟨a0, c0, rfl⟩ := h.slice
  obtain ⟨a1, c1, rfl⟩ := h1.slice
  have HR0 := Lib.hid h
  have HR1 := Lib.hid h1
  have hown0 : (w.alloc (.cells #[] 2)).ownsRow w.heap.size 2 1 (.slice (some ⟨w.heap.size, 0, none⟩) 0 0) 0 [] := World.ownsRow_lit w #[] 0 (Nat.le_refl _) (Nat.zero_le _) rfl
  have HO0 := Lib.hid hown0
  clear h h1 hown0
  go_enter Try.func34, Try.ntmps34
  go_wp2_with fail
  go_loopw [5, 6] (fun s i wr => ∃ k : Nat, k ≤ 16 ∧ i = .int .i64 k ∧ OwnRow 2 wr w.heap.size s (listTo (bothMC xs ys) k) ∧ Below w.heap.size w wr) (fun _ i _ => 16 - (intOf i).toNat)
  case atStart => exact ⟨0, Nat.zero_le _, rfl, OwnRow.of_ownsRow (n := 0) (xs := []) HO0.out (Nat.zero_le _) (fun x hx => absurd hx (by simp)), (Below.refl _ _).alloc (Nat.le_refl _) _⟩
  case round =>
    obtain ⟨k, hk, rfl, ho, hb⟩ := hrel
    have hpl := listTo_len (bothMC xs ys) k
    obtain ⟨a3, c3, e3⟩ := ho.row.slice
    subst e3
    have HO := Lib.hid ho
    have HB := Lib.hid hb
    have hz3 : w.heap.size ≤ wr.heap.size := hb.size
    have HX := Lib.hid (HR0.out.keep hb)
    have HY := Lib.hid (HR1.out.keep hb)
    have HLS := Lib.hid (listTo_succ (bothMC xs ys) k)
    clear ho hb
    by_cases hlt : k < 16
    · have HBT := Lib.hid (bothMC_bit xs ys k hlt)
      go_wp2_with fail
      go_loop [5, 7] (fun s i => ∃ q : Nat, q ≤ xs.length + ys.length ∧ s = .slice a3 (listTo (bothMC xs ys) k).length c3 ∧ i = .int .i64 q ∧ ∀ j, j < q → (j < xs.length → nth xs j ≠ (k : Int)) ∧ (xs.length ≤ j → nth ys (j - xs.length) ≠ (k : Int))) (fun _ i => xs.length + ys.length - (intOf i).toNat)
      case atStart => exact ⟨0, Nat.zero_le _, rfl, rfl, fun j hj => absurd hj (by omega)⟩
      case round =>
        obtain ⟨q, hq, rfl, rfl, hnot⟩ := hrel
        have HNOT := Lib.hid hnot
        clear hnot
        by_cases hql : q < xs.length + ys.length
        · by_cases hqx : q < xs.length
          · obtain ⟨b, o, c, e1, l1, l2, hc⟩ := HX.out.pos (by omega)
            simp only [Value.slice.injEq, true_and] at e1
            obtain ⟨rfl, rfl⟩ := e1
            have hcq := hc q hqx
            clear hc
            by_cases hit : nth xs q = (k : Int)
            · rw [hit] at hcq
              have HPE : Hid (listTo (bothMC xs ys) (k + 1) = listTo (bothMC xs ys) k ++ [(k : Int)]) := by
                show _ = _
                rw [HLS.out, HBT.out, (hasB_iff _ _).2 ⟨q, hqx, hit⟩]
                rfl
              clear hit
              go_wp2_with (at_builtin; refine wpList_append_own _ rfl (.tmp 51) (.tmp 53) 31 rfl w.heap.size 2 i0 (.int .i64 0) 1 8 Try.underlying31 hi hz0 hz1 hz2 rfl (by decide) _ _ _ rfl (HO.out.owns.alloc _) ⟨wr.heap.size, 0, none⟩ 1 1 [.int .i64 (k : Int)] rfl rfl (lit1C _ _ _) (one1C _) (by unfold maxLen; omega) (by omega) (by simp; omega) ?_)
              intro v4 w4 hown4 hgrow4 _
              have hb4 : Below w.heap.size w w4 := (HB.out.alloc hz3 _).grown hgrow4 (by simp; omega) (fun j hj => (HO.out.lt j hj).1)
              have HO4 : Hid (OwnRow 2 w4 w.heap.size v4 (listTo (bothMC xs ys) (k + 1))) := OwnRow.of_ownsRow (n := (listTo (bothMC xs ys) k).length + 1) (by rw [HPE.out]; simpa using hown4) (by rw [HPE.out]; simp; unfold maxLen; omega) (fun x hx => by
                rw [HPE.out] at hx
                rcases List.mem_append.1 hx with hx | hx
                · exact HO.out.1 x hx
                · simp at hx; subst hx; unfold I64; omega)
              have HB4 := Lib.hid hb4
              clear hown4 hgrow4 hb4
              go_wp2
              go_roundw
              case rel => exact ⟨k + 1, by omega, by go_num, HO4.out, HB4.out⟩
              case measure => simp [intOf]; omega
            · have hne : (nth xs q == (k : Int)) = false := by rw [beq_eq_false_iff_ne]; exact hit
              have hge : ¬ (xs.length ≤ q) := by omega
              have HH := Lib.hid hit
              clear hit
              go_wp2
              go_round
              case rel =>
                refine ⟨q + 1, by omega, rfl, by go_num, fun j hj => ?_⟩
                rcases Nat.lt_succ_iff_lt_or_eq.1 hj with h' | rfl
                · exact HNOT.out j h'
                · exact ⟨fun _ => HH.out, fun h => absurd h (by omega)⟩
              case measure => simp [intOf]; omega
          · obtain ⟨p, rfl⟩ : ∃ p, q = xs.length + p := ⟨q - xs.length, by omega⟩
            have hpl2 : p < ys.length := by omega
            obtain ⟨b, o, c, e1, l1, l2, hc⟩ := HY.out.pos (by omega)
            simp only [Value.slice.injEq, true_and] at e1
            obtain ⟨rfl, rfl⟩ := e1
            have hcq := hc p hpl2
            clear hc
            by_cases hit : nth ys p = (k : Int)
            · rw [hit] at hcq
              have HPE : Hid (listTo (bothMC xs ys) (k + 1) = listTo (bothMC xs ys) k ++ [(k : Int)]) := by
                show _ = _
                rw [HLS.out, HBT.out, (hasB_iff ys _).2 ⟨p, hpl2, hit⟩, Bool.or_true]
                rfl
              clear hit
              go_wp2_with (at_builtin; refine wpList_append_own _ rfl (.tmp 51) (.tmp 53) 31 rfl w.heap.size 2 i0 (.int .i64 0) 1 8 Try.underlying31 hi hz0 hz1 hz2 rfl (by decide) _ _ _ rfl (HO.out.owns.alloc _) ⟨wr.heap.size, 0, none⟩ 1 1 [.int .i64 (k : Int)] rfl rfl (lit1C _ _ _) (one1C _) (by unfold maxLen; omega) (by omega) (by simp; omega) ?_)
              intro v4 w4 hown4 hgrow4 _
              have hb4 : Below w.heap.size w w4 := (HB.out.alloc hz3 _).grown hgrow4 (by simp; omega) (fun j hj => (HO.out.lt j hj).1)
              have HO4 : Hid (OwnRow 2 w4 w.heap.size v4 (listTo (bothMC xs ys) (k + 1))) := OwnRow.of_ownsRow (n := (listTo (bothMC xs ys) k).length + 1) (by rw [HPE.out]; simpa using hown4) (by rw [HPE.out]; simp; unfold maxLen; omega) (fun x hx => by
                rw [HPE.out] at hx
                rcases List.mem_append.1 hx with hx | hx
                · exact HO.out.1 x hx
                · simp at hx; subst hx; unfold I64; omega)
              have HB4 := Lib.hid hb4
              clear hown4 hgrow4 hb4
              go_wp2
              go_roundw
              case rel => exact ⟨k + 1, by omega, by go_num, HO4.out, HB4.out⟩
              case measure => simp [intOf]; omega
            · have hne : (nth ys p == (k : Int)) = false := by rw [beq_eq_false_iff_ne]; exact hit
              have HH := Lib.hid hit
              clear hit
              go_wp2
              go_round
              case rel =>
                refine ⟨xs.length + p + 1, by omega, by omega, fun j hj => ?_⟩
                rcases Nat.lt_succ_iff_lt_or_eq.1 hj with h' | rfl
                · exact HNOT.out j h'
                · exact ⟨fun h => absurd h (by omega), fun _ => by rw [Nat.add_sub_cancel_left]; exact HH.out⟩
              case measure => simp [intOf]; omega
        · obtain rfl : q = xs.length + ys.length := by omega
          have HPE : Hid (listTo (bothMC xs ys) (k + 1) = listTo (bothMC xs ys) k) := by
            show _ = _
            have h1 : hasB xs (k : Int) = false := by
              rw [← Bool.not_eq_true, hasB_iff]
              rintro ⟨i, hi, e⟩
              exact (HNOT.out i (by omega)).1 hi e
            have h2 : hasB ys (k : Int) = false := by
              rw [← Bool.not_eq_true, hasB_iff]
              rintro ⟨i, hi, e⟩
              exact (HNOT.out (xs.length + i) (by omega)).2 (by omega) (by rw [Nat.add_sub_cancel_left]; exact e)
            rw [HLS.out, HBT.out, h1, h2]
            simp
          go_wp2
          go_roundw
          case rel => exact ⟨k + 1, by omega, by go_num, by rw [HPE.out]; exact HO.out, HB.out⟩
          case measure => simp [intOf]; omega
    · obtain rfl : k = 16 := by omega
      have HF : Hid (GaveRow w (bothLC xs ys) (.returned (.slice a3 (listTo (bothMC xs ys) 16).length c3)) wr) := ⟨_, _, _, rfl, HO.out, HB.out⟩
      go_wp2
      go_ret
      exact HF.out
theorem both_mem {n : Nat} (hn : n ≤ 16) {z : List Int} (h : SetP z n) {v : Nat} (hv : v < n) : SetP (bothLC z [(v : Int)]) n ∧ (∀ x ∈ z, x ∈ bothLC z [(v : Int)]) ∧ (v : Int) ∈ bothLC z [(v : Int)] ∧ ((v : Int) ∈ z → bothLC z [(v : Int)] = z) := by
  have hm : ∀ x : Int, x ∈ bothLC z [(v : Int)] ↔ x ∈ z ∨ x = (v : Int) := fun x => by
    unfold bothLC bothMC
    rw [listM_mem]
    constructor
    · rintro ⟨i, hi, hb, rfl⟩
      rw [pm_bit, Bool.and_eq_true, Bool.or_eq_true, hasB_mem, hasB_mem, List.mem_singleton] at hb
      exact hb.2
    · intro hx
      have hb : 0 ≤ x ∧ x < (n : Int) := by
        rcases hx with hx | hx
        · exact h.vtx x hx
        · omega
      refine ⟨x.toNat, by omega, ?_, by omega⟩
      rw [pm_bit, Bool.and_eq_true, decide_eq_true_iff, Bool.or_eq_true, hasB_mem, hasB_mem, List.mem_singleton, show ((x.toNat : Nat) : Int) = x by omega]
      exact ⟨by omega, hx⟩
  refine ⟨SetP.mk (listM_set _).pairwise (fun x hx => ?_), fun x hx => (hm x).2 (Or.inl hx), (hm _).2 (Or.inr rfl), fun hvz => ?_⟩
  · rcases (hm x).1 hx with h1 | h1
    · exact h.bounds x h1
    · omega
  · unfold bothLC bothMC
    refine (set_eq_pm hn h (fun u hu => ?_)).symm
    rw [Bool.eq_iff_iff, Bool.or_eq_true, hasB_mem, hasB_mem, List.mem_singleton]
    constructor
    · exact fun h => Or.inl h
    · rintro (h1 | h1)
      · exact h1
      · rw [h1]; exact hvz

end Go.Proofs.Ytmfolclpddoplaa

/- The walk of FnCliques. -/
namespace Go.Proofs.Ytmfolclpddoplaa
open Go.RowKit

theorem bigC_any (a : Option Addr) (n cap : Nat) (w : World) : Calls Try.prog 13 #[.slice a n cap] w fun e w' => e = .returned (.bool (decide ((4096 : Int) < (n : Int)))) ∧ w = w' := by
  go_enter Try.func13, Try.ntmps13
  go_wp2
  go_ret
  exact ⟨rfl, rfl⟩

set_option maxHeartbeats 8000000 in
set_option maxRecDepth 100000 in
theorem lawCliques (a0 : Option Addr) (n0 c0 : Nat) (w : World) (hb : n0 ≤ 4096 → BytesAt w w.heap.size (.slice a0 n0 c0) n0) :
    Calls Try.prog 4 #[.slice a0 n0 c0] w fun e w' => e = .returned (.bool true) ∧ Below w.heap.size w w' := by
  have HBY := Lib.hid hb
  clear hb
  go_enter Try.func4, Try.ntmps4
  go_wp2_with fail
  refine (bigC_any _ _ _ _).mono ?_
  rintro e w' ⟨rfl, rfl⟩
  by_cases hbig : (4096 : Int) < (n0 : Int)
  · rw [decide_eq_true hbig]
    go_wp2
    go_ret
    exact ⟨rfl, Below.refl _ _⟩
  rw [decide_eq_false hbig]
  have hby0 := HBY.out (by omega)
  have HB0 := Lib.hid hby0
  clear hby0 HBY hbig
  go_wp2_with fail
  refine (drawCliquesOf_any n0 _ w HB0.out).mono ?_
  rintro e w1 ⟨L, n, a, cap, rfl, hn17, hg1, hb1⟩
  obtain rfl : n = L.length := by
    obtain ⟨a3, c3, e3⟩ := hg1.slice
    simp only [Value.slice.injEq] at e3
    exact e3.2.1
  have hbx : Below w1.heap.size w1 (w1.alloc (.cells #[.slice a L.length cap] 29)) := (Below.refl _ _).alloc (Nat.le_refl _) _
  have HX2 : Hid (BoxAt (w1.alloc (.cells #[.slice a L.length cap] 29)) w1.heap.size (.slice a L.length cap)) := BoxAt.new _ _ _
  have HG2 := Lib.hid (hg1.keep hbx)
  have HB2 : Hid (Below w.heap.size w (w1.alloc (.cells #[.slice a L.length cap] 29))) := hb1.trans (hbx.mono hb1.size)
  have k2 := HX2.out.1
  clear hg1 hb1 hbx
  go_wp2_with fail
  generalize (w1.alloc (.cells #[.slice a L.length cap] 29)) = w2 at HX2 HG2 HB2 k2 ⊢
  have HKB : Hid (∀ W, Below w2.heap.size w2 W → W.cell? ⟨w1.heap.size, 0, none⟩ = some (.slice a L.length cap)) := fun W hb => (HX2.out.keep hb).1
  have HGK : Hid (∀ W, Below w2.heap.size w2 W → GridAt W (.slice a L.length cap) L) := fun W hb => HG2.out.keep hb
  have HBW : Hid (∀ W, Below w2.heap.size w2 W → Below w.heap.size w W) := fun W hb => HB2.out.trans (hb.mono HB2.out.size)
  refine (implCliquesOf_any _ L _ HG2.out).mono ?_
  rintro e w3 ⟨m3, a3, c3, rfl, ho3, hb3⟩
  obtain ⟨Z, hZ⟩ : ∃ Z, Z = cqlL L := ⟨_, rfl⟩
  rw [← hZ] at ho3
  obtain rfl : m3 = Z.length := by
    obtain ⟨a4, c4, e4⟩ := ho3.grid.slice
    simp only [Value.slice.injEq] at e4
    exact e4.2.1
  have HZE := Lib.hid hZ
  have HZL := Lib.hid ho3.grid
  have HB3 : Hid (Below w2.heap.size w2 w3) := hb3
  have hsm := (cqlL_small L).1
  rw [← hZ] at hsm
  have k3 := HKB.out _ hb3
  clear ho3 hb3 hZ k2
  go_wp2_with fail
  refine (specCliquesOf_any _ L _ (HGK.out _ HB3.out)).mono ?_
  rintro e w4 ⟨m4, a4, c4, rfl, ho4, hb4⟩
  rw [← HZE.out] at ho4
  have HB4 : Hid (Below w2.heap.size w2 w4) := HB3.out.trans (hb4.mono HB3.out.size)
  have HZ4 := Lib.hid (HZL.out.keep hb4)
  have HS4 := Lib.hid ho4.grid
  have k4 := HKB.out _ HB4.out
  clear ho4 hb4 k3 HZL
  go_wp2_with fail
  refine (w5Lists_any _ _ Z Z _ HZ4.out HS4.out).mono ?_
  rintro e w5 ⟨rfl, hd5⟩
  rw [decide_eq_true rfl]
  have HB5 : Hid (Below w2.heap.size w2 w5) := HB4.out.trans (hd5.below _)
  have HZ5 := Lib.hid (HZ4.out.drawn hd5)
  have k5 := HKB.out _ HB5.out
  clear hd5 k4 HZ4 HS4
  go_wp2_with fail
  go_loopw [5] (fun iv wr => ∃ k : Nat, k ≤ Z.length ∧ iv = .int .i64 k ∧ Below w5.heap.size w5 wr) (fun iv _ => Z.length - (intOf iv).toNat)
  case atStart => exact ⟨0, Nat.zero_le _, rfl, Below.refl _ _⟩
  case round =>
    obtain ⟨k, hk, rfl, hb⟩ := hrel
    have HBR := Lib.hid hb
    have H2R : Hid (Below w2.heap.size w2 wr) := HB5.out.trans (hb.mono HB5.out.size)
    by_cases hlt : k < Z.length
    · have hG : GraphP L := by
        rcases Classical.em (GraphP L) with h | h
        · exact h
        · exfalso
          rw [HZE.out, show cqlL L = [] from if_neg h] at hlt
          simp at hlt
      have hz := hG.1
      obtain ⟨bg, og, cg, A, C, eg, lg1, lg2, hcg⟩ := (HZ5.out.keep hb).pos (by omega)
      simp only [Value.slice.injEq, true_and] at eg
      obtain ⟨rfl, rfl⟩ := eg
      obtain ⟨q1, q2⟩ := hcg k hlt
      have hzm : nthR Z k ∈ cqlL L := by rw [← HZE.out]; exact nthR_mem hlt
      obtain ⟨f1, f2, f3⟩ := clique_facts hG _ hzm
      obtain ⟨z, hzz⟩ : ∃ z, z = nthR Z k := ⟨_, rfl⟩
      rw [← hzz] at q1 q2 f1 f2 f3
      have hzl : z.length ≤ 16 := by have := f1.len (by omega); omega
      have HF1 := Lib.hid f1
      have HF3 := Lib.hid f3
      have HR := Lib.hid q2
      obtain ⟨az, haz⟩ : ∃ az, az = A k := ⟨_, rfl⟩
      obtain ⟨cz, hcz⟩ : ∃ cz, cz = C k := ⟨_, rfl⟩
      rw [← haz, ← hcz] at q1 HR
      have HQ1 : Hid (∀ W, Below wr.heap.size wr W → W.cell? ⟨bg, og + k, none⟩ = some (.slice az z.length cz)) := fun W hb' => cell_keep hb' q1
      have kp := HKB.out _ H2R.out
      have hkI : (k : Int) < (Z.length : Int) := by omega
      have hcA : Hid (∀ x : Later wr, Calls Try.prog 33 #[.agg #[.slice a L.length cap], .slice az z.length cz] x.at fun e w2 => e = .returned (.bool true) ∧ ∃ y : Later wr, w2 = y.at) :=
        fun x => Calls.later ((implCliqueOk_any _ _ L z _ (HGK.out _ (H2R.out.trans (x.bel.mono H2R.out.size))) (HR.out.keep x.bel)).mono fun _ _ ⟨h1, h2⟩ => ⟨by rw [h1, f2], h2⟩)
      have kl := fun x : Later wr => x.cell kp
      have kl1 := fun x : Later wr => x.cell q1
      clear hb hcg q1 q2 f1 f2 f3 kp haz hcz hzm hzz
      go_wp2_with fail
      refine wp_region_later (by kernel_rfl) (by kernel_rfl) ?_
      repeat (go_big_quiet_step ((go_at_call 33; exact hcA.out _)))
      refine wpQuiet_nil ?_
      rintro _ ⟨x, rfl⟩
      have HB6 := Lib.hid x.bel
      generalize x.at = w6 at HB6 ⊢
      clear kl kl1 hcA
      go_wp2_with fail
      go_loopw [6] (fun iv wv => ∃ v : Nat, v ≤ L.length ∧ iv = .int .i64 v ∧ Below wr.heap.size wr wv) (fun iv _ => L.length - (intOf iv).toNat)
      case atStart => exact ⟨0, Nat.zero_le _, rfl, HB6.out⟩
      case round =>
        rename World => wv
        obtain ⟨v, hv, rfl, hbv⟩ := hrel
        have HBV := Lib.hid hbv
        have H2V : Hid (Below w2.heap.size w2 wv) := H2R.out.trans (hbv.mono H2R.out.size)
        have kg := HKB.out _ H2V.out
        have kq := HQ1.out _ hbv
        clear hbv
        by_cases hvl : v < L.length
        · have hvI : (v : Int) < (L.length : Int) := by omega
          obtain ⟨b1, b2, b3, b4⟩ := both_mem hz.2 HF1.out hvl
          obtain ⟨y, hy⟩ : ∃ y, y = bothLC z [(v : Int)] := ⟨_, rfl⟩
          rw [← hy] at b1 b2 b3 b4
          have HY := Lib.hid hy
          have hyl : y.length ≤ 16 := by have := b1.len (by omega); omega
          have HCQ : Hid ((v : Int) ∉ z → clqB L y = false) := fun hn => HF3.out v hvl hn y b1 b2 b3
          have HYZ : Hid ((v : Int) ∈ z → y.length = z.length) := fun h => by rw [b4 h]
          have HNL : Hid (RowAt (wv.alloc (.cells #[.int .i64 (v : Int)] 2)) (.slice (some ⟨wv.heap.size, 0, none⟩) 1 1) [(v : Int)]) := by
            refine ⟨fun x hx => by rw [List.mem_singleton] at hx; subst hx; unfold I64; omega, by simp [maxLen], Or.inr ⟨wv.heap.size, 0, 1, rfl, Nat.le_refl _, by unfold maxLen; omega, fun i hi => ?_⟩⟩
            obtain rfl : i = 0 := by simpa using hi
            exact (BoxAt.new wv (.int .i64 (v : Int)) 2).1
          have hba : Below wv.heap.size wv (wv.alloc (.cells #[.int .i64 (v : Int)] 2)) := (Below.refl _ _).alloc (Nat.le_refl _) _
          have HBA : Hid (Below wr.heap.size wr (wv.alloc (.cells #[.int .i64 (v : Int)] 2))) := HBV.out.trans (hba.mono HBV.out.size)
          clear b1 b2 b3 b4 hy hba
          go_wp2_with fail
          refine (w5BothC_any _ _ z [(v : Int)] _ (HR.out.keep HBA.out) HNL.out (by omega) (by simp)).mono ?_
          rintro e w7 ⟨m7, a7, c7, rfl, ho7, hb7⟩
          rw [← HY.out] at ho7
          obtain ⟨a8, c8, e8⟩ := ho7.row.slice
          simp only [Value.slice.injEq] at e8
          obtain ⟨rfl, rfl, rfl⟩ := e8
          have HB7 : Hid (Below wr.heap.size wr w7) := HBA.out.trans (hb7.mono HBA.out.size)
          have H27 : Hid (Below w2.heap.size w2 w7) := H2R.out.trans (HB7.out.mono H2R.out.size)
          have HR7 := Lib.hid ho7.row
          have kg7 := HKB.out _ H27.out
          have kq7 := HQ1.out _ HB7.out
          clear ho7 hb7 kg kq
          by_cases hgt : z.length < y.length
          · have hgtI : (z.length : Int) < (y.length : Int) := by omega
            have hnm : (v : Int) ∉ z := fun h => by have := HYZ.out h; omega
            have hcf := HCQ.out hnm
            go_wp2_with fail
            refine (implCliqueOk_any _ _ L y _ (HGK.out _ H27.out) HR7.out).mono ?_
            rintro e w8 ⟨rfl, hb8⟩
            rw [hcf]
            have HB8 : Hid (Below wr.heap.size wr w8) := HB7.out.trans (hb8.mono HB7.out.size)
            clear hb8 kg7 kq7 hcf hnm
            go_wp2
            go_roundw
            case rel => exact ⟨v + 1, by omega, by go_num, HB8.out⟩
            case measure => simp [intOf]; omega
          · have hgtI : ¬ (z.length : Int) < (y.length : Int) := by omega
            clear kg7
            go_wp2
            go_roundw
            case rel => exact ⟨v + 1, by omega, by go_num, HB7.out⟩
            case measure => simp [intOf]; omega
        · obtain rfl : v = L.length := by omega
          clear kq
          go_wp2
          go_roundw
          case rel => exact ⟨k + 1, by omega, by go_num, HBR.out.trans (HBV.out.mono HBR.out.size)⟩
          case measure => simp [intOf]; omega
    · obtain rfl : k = Z.length := by omega
      have kp := HKB.out _ H2R.out
      have HFEW : Hid (poV L = true → Z.length ≤ L.length) := fun hp => by
        have hG : GraphP L ∧ pfB (adjB L) L.length = true := by
          unfold poV at hp
          rw [Bool.and_eq_true, decide_eq_true_iff] at hp
          exact hp
        rw [HZE.out, show cqlL L = cqF (adjB L) 17 [] (allL L.length) [] from if_pos hG.1]
        exact cliques_few (adjB_rel hG.1) hG.1.1 hG.2
      clear hb
      go_wp2_with fail
      refine (specChordalIn_any _ L _ (HGK.out _ H2R.out)).mono ?_
      rintro e w8 ⟨rfl, hb8⟩
      have HB8 : Hid (Below w2.heap.size w2 w8) := H2R.out.trans (hb8.mono H2R.out.size)
      have k8 := HKB.out _ HB8.out
      clear hb8 kp
      cases hp : poV L with
      | true =>
        have hle := HFEW.out hp
        have hleI : (Z.length : Int) ≤ (L.length : Int) := by omega
        go_wp2
        go_ret
        exact ⟨rfl, HBW.out _ HB8.out⟩
      | false =>
        go_wp2
        go_ret
        exact ⟨rfl, HBW.out _ HB8.out⟩

end Go.Proofs.Ytmfolclpddoplaa
