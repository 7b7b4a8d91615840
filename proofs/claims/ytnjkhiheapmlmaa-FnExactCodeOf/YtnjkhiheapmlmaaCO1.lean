/- Walks: the adjacency code, of the model. -/
import Derived.Test.YtnjkhiheapmlmaaQM7
import Derived.Test.YtnjkhiheapmlmaaQM1
import Derived.Test.YtnjkhiheapmlmaaQC1

namespace Go.Proofs.Ytnjkhiheapmlmaa
open Go.RowKit

/-- 1 or 0. -/
def flagI (b : Bool) : Int := if b then 1 else 0
theorem flagI_rng (b : Bool) : 0 ≤ flagI b ∧ flagI b ≤ 1 := by cases b <;> simp [flagI]
/-- What the vertex v adds to the code behind the first k of xs. -/
def codeRow (A : Nat → Nat → Bool) (xs : List Int) (v : Int) (k : Nat) : List Int := (xs.take k).map (fun u => flagI (A u.toNat v.toNat))
theorem codeRow_zero (A : Nat → Nat → Bool) (xs : List Int) (v : Int) : codeRow A xs v 0 = [] := by simp [codeRow]
theorem codeRow_succ (A : Nat → Nat → Bool) {xs : List Int} (v : Int) {k : Nat} (h : k < xs.length) : codeRow A xs v (k + 1) = codeRow A xs v k ++ [flagI (A (nth xs k).toNat v.toNat)] := by
  unfold codeRow
  simp only [List.take_add_one, List.getElem?_eq_getElem h, Option.toList_some, List.map_append, List.map_cons, List.map_nil, nth_eq h]
theorem codeRow_len (A : Nat → Nat → Bool) (xs : List Int) (v : Int) (k : Nat) : (codeRow A xs v k).length ≤ k := by simp [codeRow]; omega
theorem codeRow_rng (A : Nat → Nat → Bool) (xs : List Int) (v : Int) (k : Nat) : ∀ x ∈ codeRow A xs v k, 0 ≤ x ∧ x ≤ 1 := by
  intro x hx
  unfold codeRow at hx
  rw [List.mem_map] at hx
  obtain ⟨u, _, rfl⟩ := hx
  exact flagI_rng _
/-- The code of the first j of xs. -/
def codeTo (A : Nat → Nat → Bool) (xs : List Int) : Nat → List Int
  | 0 => []
  | j + 1 => codeTo A xs j ++ codeRow A xs (nth xs j) j
theorem codeTo_len (A : Nat → Nat → Bool) (xs : List Int) (j : Nat) : (codeTo A xs j).length ≤ j * j := by
  induction j with
  | zero => simp [codeTo]
  | succ j ih =>
    rw [codeTo, List.length_append, Nat.succ_mul, Nat.mul_succ]
    have := codeRow_len A xs (nth xs j) j
    omega
theorem codeTo_rng (A : Nat → Nat → Bool) (xs : List Int) (j : Nat) : ∀ x ∈ codeTo A xs j, 0 ≤ x ∧ x ≤ 1 := by
  induction j with
  | zero => intro x hx; simp [codeTo] at hx
  | succ j ih =>
    intro x hx
    rw [codeTo, List.mem_append] at hx
    rcases hx with hx | hx
    · exact ih x hx
    · exact codeRow_rng _ _ _ _ x hx
theorem codeTo_small (A : Nat → Nat → Bool) (xs : List Int) {j : Nat} (h : j ≤ 16) : (codeTo A xs j).length ≤ 256 := Nat.le_trans (codeTo_len A xs j) (Nat.le_trans (Nat.mul_le_mul h h) (by decide))
theorem code_i64 {A : Nat → Nat → Bool} {xs : List Int} {j k : Nat} {v : Int} : ∀ x ∈ codeTo A xs j ++ codeRow A xs v k, I64 x := by
  intro x hx
  have : 0 ≤ x ∧ x ≤ 1 := by
    rcases List.mem_append.1 hx with h | h
    · exact codeTo_rng _ _ _ x h
    · exact codeRow_rng _ _ _ _ x h
  unfold I64
  omega
/-- What CodeOf answers. -/
def codeL (L : List (List Int)) : List Int := if GraphP L then codeTo (adjB L) (allL L.length) L.length else []
theorem codeL_small (L : List (List Int)) : (codeL L).length ≤ 1048576 := by
  unfold codeL
  split
  · rename_i h
    have := codeTo_small (adjB L) (allL L.length) h.1.2
    omega
  · simp
theorem allL_nth {n k : Nat} (h : k < n) : nth (allL n) k = (k : Int) := by
  rw [nth_eq (by rw [allL_len]; exact h)]
  simp [allL]

theorem lit1 (w : World) (x : Int) (T : TypeId) : ∀ j u, ([Value.int .i64 x] : List Value)[j]? = some u → (w.alloc (.cells #[.int .i64 x] T)).cell? ((⟨w.heap.size, 0, none⟩ : Addr).add j) = some u := by
  intro j u hj
  match j, hj with
  | 0, hj => simp at hj; subst hj; simp [Addr.add]
theorem one1 (x : Int) : ∀ u ∈ ([Value.int .i64 x] : List Value), u.oneCell' = true := by
  intro u hu; simp at hu; subst hu; rfl

theorem l1Flag_any (b : Bool) (w : World) : Calls Try.prog 121 #[.bool b] w fun e w' => e = .returned (.int .i64 (flagI b)) ∧ w = w' := by
  cases b with
  | true =>
    go_enter Try.func121, Try.ntmps121
    go_wp2
    go_ret
    exact ⟨rfl, rfl⟩
  | false =>
    go_enter Try.func121, Try.ntmps121
    go_wp2
    go_ret
    exact ⟨rfl, rfl⟩

set_option maxHeartbeats 4000000 in
set_option maxRecDepth 100000 in
theorem l4Code_any (v : Value) (L : List (List Int)) (w : World) (h : GridAt w v L) (hG : GraphP L) : Calls Try.prog 82 #[.agg #[v]] w (GaveRow w (codeTo (adjB L) (allL L.length) L.length)) := by
  obtain ⟨i0, hi, hz0, hz1, hz2⟩ := info_parts Try.infoI
  obtain ⟨a0, c0, rfl⟩ := h.slice
  have hz := hG.1
  have hb0 : Below w.heap.size w (w.alloc (.cells #[.slice a0 L.length c0] 29)) := (Below.refl _ _).alloc (Nat.le_refl _) _
  have kb0 : (w.alloc (.cells #[.slice a0 L.length c0] 29)).cell? ⟨w.heap.size, 0, none⟩ = some (.slice a0 L.length c0) := by go_simp
  have hs0 : (w.alloc (.cells #[.slice a0 L.length c0] 29)).heap.size = w.heap.size + 1 := size_alloc1 _ _
  have hg0 := h.keep hb0
  have HG := Lib.hid hG
  go_enter Try.func82, Try.ntmps82
  go_wp2_with fail
  obtain ⟨w0, hw0⟩ : ∃ w0, w.alloc (.cells #[.slice a0 L.length c0] 29) = w0 := ⟨_, rfl⟩
  rw [hw0] at hb0 kb0 hs0 hg0 ⊢
  rw [← hs0]
  have HO0 : Hid (OwnRow 2 (w0.alloc (.cells #[] 2)) w0.heap.size (.slice (some ⟨w0.heap.size, 0, none⟩) 0 0) []) := OwnRow.of_ownsRow (n := 0) (xs := []) (World.ownsRow_lit w0 #[] 0 (Nat.le_refl _) (Nat.zero_le _) rfl) (Nat.zero_le _) (fun x hx => absurd hx (by simp))
  have KB : Hid (∀ w', Below w0.heap.size w0 w' → w'.cell? ⟨w.heap.size, 0, none⟩ = some (.slice a0 L.length c0)) := fun w' hb => cell_keep hb kb0
  have GK : Hid (∀ w', Below w0.heap.size w0 w' → GridAt w' (.slice a0 L.length c0) L) := fun w' hb => hg0.keep hb
  have HW0 : Hid (Below w.heap.size w w0) := hb0
  have HS0 := Lib.hid hs0
  clear hw0 hb0 kb0 hg0 h hG hs0
  go_loopw [3, 4] (fun s i wr => ∃ k : Nat, k ≤ L.length ∧ i = .int .i64 k ∧ OwnRow 2 wr w0.heap.size s (codeTo (adjB L) (allL L.length) k) ∧ Below w0.heap.size w0 wr) (fun _ i _ => L.length - (intOf i).toNat)
  case atStart => exact ⟨0, Nat.zero_le _, rfl, HO0.out, (Below.refl _ _).alloc (Nat.le_refl _) _⟩
  case round =>
    clear HO0
    obtain ⟨k, hk, rfl, ho, hb⟩ := hrel
    obtain ⟨a3, c3, e3⟩ := ho.row.slice
    subst e3
    have kb := KB.out _ hb
    have HO := Lib.hid ho
    have HB := Lib.hid hb
    clear ho hb
    go_wp2_with fail
    refine (l1Size_any _ L _ (GK.out _ HB.out)).mono ?_
    rintro e w1 ⟨rfl, hb1⟩
    have HO1 := Lib.hid (HO.out.keep hb1)
    have HB1 : Hid (Below w0.heap.size w0 w1) := HB.out.trans (hb1.mono HB.out.size)
    clear hb1 HO HB kb
    by_cases hlt : k < L.length
    · go_wp2_with fail
      go_loopw [3, 5] (fun s i wr => ∃ q : Nat, q ≤ k ∧ i = .int .i64 q ∧ OwnRow 2 wr w0.heap.size s (codeTo (adjB L) (allL L.length) k ++ codeRow (adjB L) (allL L.length) (k : Int) q) ∧ Below w0.heap.size w0 wr) (fun _ i _ => k - (intOf i).toNat)
      case atStart => exact ⟨0, Nat.zero_le _, rfl, by rw [codeRow_zero, List.append_nil]; exact HO1.out, HB1.out⟩
      case round =>
        clear HO1 HB1
        rename World => w2
        obtain ⟨q, hq, rfl, ho, hb⟩ := hrel
        obtain ⟨a4, c4, e4⟩ := ho.row.slice
        subst e4
        have hlen : (codeTo (adjB L) (allL L.length) k ++ codeRow (adjB L) (allL L.length) (k : Int) q).length ≤ 300 := by
          rw [List.length_append]
          have := codeTo_small (adjB L) (allL L.length) (j := k) (by omega)
          have := codeRow_len (adjB L) (allL L.length) (k : Int) q
          omega
        have kb := KB.out _ hb
        have HO := Lib.hid ho
        have HB := Lib.hid hb
        clear ho hb
        by_cases hql : q < k
        · have HS : Hid (codeRow (adjB L) (allL L.length) (k : Int) (q + 1) = codeRow (adjB L) (allL L.length) (k : Int) q ++ [flagI (hasB (nthR L q) (k : Int))]) := by
            show _ = _
            rw [codeRow_succ _ _ (by rw [allL_len]; omega), allL_nth (by omega), Int.toNat_natCast, Int.toNat_natCast, adjB_has HG.out (by omega) (by omega)]
          obtain ⟨xs, hxs⟩ : ∃ xs, xs = codeTo (adjB L) (allL L.length) k ++ codeRow (adjB L) (allL L.length) (k : Int) q := ⟨_, rfl⟩
          rw [← hxs] at HO hlen ⊢
          have HX := Lib.hid hxs
          clear hxs
          go_wp2_with fail
          refine (l1Edge_any _ L (q : Int) (k : Int) _ (GK.out _ HB.out) (by omega) (by omega)).mono ?_
          rintro e w5 ⟨rfl, hb5⟩
          rw [Int.toNat_natCast]
          have HO5 := Lib.hid (HO.out.keep hb5)
          have HB5 : Hid (Below w0.heap.size w0 w5) := HB.out.trans (hb5.mono HB.out.size)
          have hz5 := HB5.out.size
          clear hb5 HO HB kb
          go_wp2_with fail
          refine (l1Flag_any _ _).mono ?_
          rintro e w' ⟨rfl, rfl⟩
          obtain ⟨f, hf⟩ : ∃ f, f = flagI (hasB (nthR L q) (k : Int)) := ⟨_, rfl⟩
          have hfr := flagI_rng (hasB (nthR L q) (k : Int))
          rw [← hf] at HS hfr ⊢
          clear hf
          go_wp2_with (at_builtin; refine wpList_append_own _ rfl (.tmp 18) (.tmp 24) 31 rfl w0.heap.size 2 i0 (.int .i64 0) 1 8 Try.underlying31 hi hz0 hz1 hz2 rfl (by decide) _ _ _ rfl (HO5.out.owns.alloc _) ⟨w5.heap.size, 0, none⟩ 1 1 [.int .i64 f] rfl rfl (lit1 _ _ _) (one1 _) (by unfold maxLen; omega) (by omega) (by simp; omega) ?_)
          intro v6 w6 hown6 hgrow6 _
          have hb6 : Below w0.heap.size w0 w6 := (HB5.out.alloc hz5 _).grown hgrow6 (by simp; omega) (fun j hj => (HO5.out.lt j hj).1)
          have HO6 : Hid (OwnRow 2 w6 w0.heap.size v6 (codeTo (adjB L) (allL L.length) k ++ codeRow (adjB L) (allL L.length) (k : Int) (q + 1))) := by
            have e : codeTo (adjB L) (allL L.length) k ++ codeRow (adjB L) (allL L.length) (k : Int) (q + 1) = xs ++ [f] := by rw [HS.out, HX.out, List.append_assoc]
            show OwnRow _ _ _ _ _
            rw [e]
            refine OwnRow.of_ownsRow (n := xs.length + 1) (by simpa using hown6) (by simp; unfold maxLen; omega) ?_
            rw [← e]
            exact code_i64
          have HB6 := Lib.hid hb6
          clear hown6 hgrow6 hb6
          go_wp2
          go_roundw
          case rel => exact ⟨q + 1, by omega, by go_num, HO6.out, HB6.out⟩
          case measure => simp [intOf]; omega
        · obtain rfl : q = k := by omega
          have HS : Hid (codeTo (adjB L) (allL L.length) (q + 1) = codeTo (adjB L) (allL L.length) q ++ codeRow (adjB L) (allL L.length) (q : Int) q) := by show _ = _; rw [codeTo, allL_nth (by omega)]
          clear kb
          go_wp2
          go_roundw
          case rel => exact ⟨q + 1, by omega, by go_num, by rw [HS.out]; exact HO.out, HB.out⟩
          case measure => simp [intOf]; omega
    · obtain rfl : k = L.length := by omega
      have HF : Hid (GaveRow w (codeTo (adjB L) (allL L.length) L.length) (.returned (.slice a3 (codeTo (adjB L) (allL L.length) L.length).length c3)) w1) := ⟨_, _, _, rfl, HO1.out.mono HW0.out.size, HW0.out.trans (HB1.out.mono HW0.out.size)⟩
      go_wp2
      go_ret
      exact HF.out

set_option maxHeartbeats 800000 in
theorem specCodeOf_any (v : Value) (L : List (List Int)) (w : World) (h : GridAt w v L) : Calls Try.prog 31 #[.agg #[v]] w (GaveRow w (codeL L)) := by
  obtain ⟨a0, c0, rfl⟩ := h.slice
  have hb0 : Below w.heap.size w (w.alloc (.cells #[.slice a0 L.length c0] 29)) := (Below.refl _ _).alloc (Nat.le_refl _) _
  have HGK : Hid (∀ w', Below w.heap.size w w' → GridAt w' (.slice a0 L.length c0) L) := fun w' hb => h.keep hb
  have HB0 := Lib.hid hb0
  clear h hb0
  go_enter Try.func31, Try.ntmps31
  go_wp2_with fail
  refine (specGraphOk_any _ _ _ (HGK.out _ HB0.out)).mono ?_
  rintro e w1 ⟨rfl, hb1⟩
  have HB1 : Hid (Below w.heap.size w w1) := HB0.out.trans (hb1.mono HB0.out.size)
  have kb1 : w1.cell? ⟨w.heap.size, 0, none⟩ = some (.slice a0 L.length c0) := by rw [hb1.cell (by simp)]; go_simp
  clear hb1
  by_cases hG : GraphP L
  · rw [decide_eq_true hG]
    have HE : Hid (codeL L = codeTo (adjB L) (allL L.length) L.length) := by show _ = _; unfold codeL; rw [if_pos hG]
    have HG := Lib.hid hG
    clear hG
    go_wp2_with fail
    refine (l4Code_any _ L _ (HGK.out _ HB1.out) HG.out).mono ?_
    rintro e w2 ⟨n2, a2, c2, rfl, ho2, hb2⟩
    have HF : Hid (GaveRow w (codeL L) (.returned (.slice a2 n2 c2)) w2) := ⟨_, _, _, rfl, by rw [HE.out]; exact ho2.mono HB1.out.size, HB1.out.trans (hb2.mono HB1.out.size)⟩
    clear ho2 hb2
    go_wp2
    go_ret
    exact HF.out
  · rw [decide_eq_false hG]
    have HE : Hid (codeL L = []) := by show _ = _; unfold codeL; rw [if_neg hG]
    clear hG
    go_wp2
    go_ret
    refine ⟨_, _, _, rfl, ?_, HB1.out.alloc HB1.out.size _⟩
    rw [HE.out]
    exact OwnRow.of_ownsRow (n := 0) (xs := []) (World.ownsRow_lit w1 #[] 0 HB1.out.size (Nat.zero_le _) rfl) (Nat.zero_le _) (fun x hx => absurd hx (by simp))

end Go.Proofs.Ytnjkhiheapmlmaa
