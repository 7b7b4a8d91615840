/- The texts CO1, CO2, joined. -/
import Derived.Test.YtgeifbgjfbfcfaaQM7
import Derived.Test.YtgeifbgjfbfcfaaQM1
import Derived.Test.YtgeifbgjfbfcfaaQC1
import Derived.Test.YtgeifbgjfbfcfaaQF6

/- Walks: the adjacency code, of the model. -/
namespace Go.Proofs.Ytgeifbgjfbfcfaa
open Go.RowKit

/-- 1 or 0. -/
def flagI (b : Bool) : Int := if b then 1 else 0
theorem flagI_rng (b : Bool) : 0 ≤ flagI b ∧ flagI b ≤ 1 := by cases b <;> simp [flagI]
/-- What the vertex v adds to the code behind the first k of xs. -/
def codeRow (A : Nat → Nat → Bool) (xs : List Int) (v : Int) (k : Nat) : List Int := (xs.take k).map (fun u => flagI (A u.toNat v.toNat))
theorem codeRow_zero (A : Nat → Nat → Bool) (xs : List Int) (v : Int) : codeRow A xs v 0 = [] := by simp [codeRow]
theorem codeRow_succ (A : Nat → Nat → Bool) {xs : List Int} (v : Int) {k : Nat} (h : k < xs.length) : codeRow A xs v (k + 1) = codeRow A xs v k ++ [flagI (A (nth xs k).toNat v.toNat)] := by
  unfold codeRow
  simp only [List.take_add_one, List.getElem?_eq_getElem h, Option.toList_some, List.map_append, List.map_cons, List.map_nil, nth_eq h]
theorem codeRow_len (A : Nat → Nat → Bool) (xs : List Int) (v : Int) (k : Nat) : (codeRow A xs v k).length ≤ k := by simp [codeRow]; omega
theorem codeRow_rng (A : Nat → Nat → Bool) (xs : List Int) (v : Int) (k : Nat) : ∀ x ∈ codeRow A xs v k, 0 ≤ x ∧ x ≤ 1 := by
  intro x hx
  unfold codeRow at hx
  rw [List.mem_map] at hx
  obtain ⟨u, _, rfl⟩ := hx
  exact flagI_rng _
/-- The code of the first j of xs. -/
def codeTo (A : Nat → Nat → Bool) (xs : List Int) : Nat → List Int
  | 0 => []
  | j + 1 => codeTo A xs j ++ codeRow A xs (nth xs j) j
theorem codeTo_len (A : Nat → Nat → Bool) (xs : List Int) (j : Nat) : (codeTo A xs j).length ≤ j * j := by
  induction j with
  | zero => simp [codeTo]
  | succ j ih =>
    rw [codeTo, List.length_append, Nat.succ_mul, Nat.mul_succ]
    have := codeRow_len A xs (nth xs j) j
    omega
theorem codeTo_rng (A : Nat → Nat → Bool) (xs : List Int) (j : Nat) : ∀ x ∈ codeTo A xs j, 0 ≤ x ∧ x ≤ 1 := by
  induction j with
  | zero => intro x hx; simp [codeTo] at hx
  | succ j ih =>
    intro x hx
    rw [codeTo, List.mem_append] at hx
    rcases hx with hx | hx
    · exact ih x hx
    · exact codeRow_rng _ _ _ _ x hx
theorem codeTo_small (A : Nat → Nat → Bool) (xs : List Int) {j : Nat} (h : j ≤ 16) : (codeTo A xs j).length ≤ 256 := Nat.le_trans (codeTo_len A xs j) (Nat.le_trans (Nat.mul_le_mul h h) (by decide))
theorem code_i64 {A : Nat → Nat → Bool} {xs : List Int} {j k : Nat} {v : Int} : ∀ x ∈ codeTo A xs j ++ codeRow A xs v k, I64 x := by
  intro x hx
  have : 0 ≤ x ∧ x ≤ 1 := by
    rcases List.mem_append.1 hx with h | h
    · exact codeTo_rng _ _ _ x h
    · exact codeRow_rng _ _ _ _ x h
  unfold I64
  omega
/-- What CodeOf answers. -/
def codeL (L : List (List Int)) : List Int := if GraphP L then codeTo (adjB L) (allL L.length) L.length else []
theorem codeL_small (L : List (List Int)) : (codeL L).length ≤ 1048576 := by
  unfold codeL
  split
  · rename_i h
    have := codeTo_small (adjB L) (allL L.length) h.1.2
    omega
  · simp
theorem allL_nth {n k : Nat} (h : k < n) : nth (allL n) k = (k : Int) := by
  rw [nth_eq (by rw [allL_len]; exact h)]
  simp [allL]

theorem lit1 (w : World) (x : Int) (T : TypeId) : ∀ j u, ([Value.int .i64 x] : List Value)[j]? = some u → (w.alloc (.cells #[.int .i64 x] T)).cell? ((⟨w.heap.size, 0, none⟩ : Addr).add j) = some u := by
  intro j u hj
  match j, hj with
  | 0, hj => simp at hj; subst hj; simp [Addr.add]
theorem one1 (x : Int) : ∀ u ∈ ([Value.int .i64 x] : List Value), u.oneCell' = true := by
  intro u hu; simp at hu; subst hu; rfl

theorem l1Flag_any (b : Bool) (w : World) : Calls Try.prog 60 #[.bool b] w fun e w' => e = .returned (.int .i64 (flagI b)) ∧ w = w' := by
  cases b with
  | true =>
    go_enter Try.func60, Try.ntmps60
    go_wp2
    go_ret
    exact ⟨rfl, rfl⟩
  | false =>
    go_enter Try.func60, Try.ntmps60
    go_wp2
    go_ret
    exact ⟨rfl, rfl⟩

set_option maxHeartbeats 4000000 in
set_option maxRecDepth 100000 in
theorem l4Code_any (v : Value) (L : List (List Int)) (w : World) (h : GridAt w v L) (hG : GraphP L) : Calls Try.prog 52 #[.agg #[v]] w (GaveRow w (codeTo (adjB L) (allL L.length) L.length)) := by
  obtain ⟨i0, hi, hz0, hz1, hz2⟩ := info_parts Try.infoI
  obtain ⟨a0, c0, rfl⟩ := h.slice
  have hz := hG.1
  have hb0 : Below w.heap.size w (w.alloc (.cells #[.slice a0 L.length c0] 26)) := (Below.refl _ _).alloc (Nat.le_refl _) _
  have kb0 : (w.alloc (.cells #[.slice a0 L.length c0] 26)).cell? ⟨w.heap.size, 0, none⟩ = some (.slice a0 L.length c0) := by go_simp
  have hs0 : (w.alloc (.cells #[.slice a0 L.length c0] 26)).heap.size = w.heap.size + 1 := size_alloc1 _ _
  have hg0 := h.keep hb0
  have HG := Lib.hid hG
  go_enter Try.func52, Try.ntmps52
  go_wp2_with fail
  obtain ⟨w0, hw0⟩ : ∃ w0, w.alloc (.cells #[.slice a0 L.length c0] 26) = w0 := ⟨_, rfl⟩
  rw [hw0] at hb0 kb0 hs0 hg0 ⊢
  rw [← hs0]
  have HO0 : Hid (OwnRow 2 (w0.alloc (.cells #[] 2)) w0.heap.size (.slice (some ⟨w0.heap.size, 0, none⟩) 0 0) []) := OwnRow.of_ownsRow (n := 0) (xs := []) (World.ownsRow_lit w0 #[] 0 (Nat.le_refl _) (Nat.zero_le _) rfl) (Nat.zero_le _) (fun x hx => absurd hx (by simp))
  have KB : Hid (∀ w', Below w0.heap.size w0 w' → w'.cell? ⟨w.heap.size, 0, none⟩ = some (.slice a0 L.length c0)) := fun w' hb => cell_keep hb kb0
  have GK : Hid (∀ w', Below w0.heap.size w0 w' → GridAt w' (.slice a0 L.length c0) L) := fun w' hb => hg0.keep hb
  have HW0 : Hid (Below w.heap.size w w0) := hb0
  have HS0 := Lib.hid hs0
  clear hw0 hb0 kb0 hg0 h hG hs0
  go_loopw [3, 4] (fun s i wr => ∃ k : Nat, k ≤ L.length ∧ i = .int .i64 k ∧ OwnRow 2 wr w0.heap.size s (codeTo (adjB L) (allL L.length) k) ∧ Below w0.heap.size w0 wr) (fun _ i _ => L.length - (intOf i).toNat)
  case atStart => exact ⟨0, Nat.zero_le _, rfl, HO0.out, (Below.refl _ _).alloc (Nat.le_refl _) _⟩
  case round =>
    clear HO0
    obtain ⟨k, hk, rfl, ho, hb⟩ := hrel
    obtain ⟨a3, c3, e3⟩ := ho.row.slice
    subst e3
    have kb := KB.out _ hb
    have HO := Lib.hid ho
    have HB := Lib.hid hb
    clear ho hb
    go_wp2_with fail
    refine (l1Size_any _ L _ (GK.out _ HB.out)).mono ?_
    rintro e w1 ⟨rfl, hb1⟩
    have HO1 := Lib.hid (HO.out.keep hb1)
    have HB1 : Hid (Below w0.heap.size w0 w1) := HB.out.trans (hb1.mono HB.out.size)
    clear hb1 HO HB kb
    by_cases hlt : k < L.length
    · go_wp2_with fail
      go_loopw [3, 5] (fun s i wr => ∃ q : Nat, q ≤ k ∧ i = .int .i64 q ∧ OwnRow 2 wr w0.heap.size s (codeTo (adjB L) (allL L.length) k ++ codeRow (adjB L) (allL L.length) (k : Int) q) ∧ Below w0.heap.size w0 wr) (fun _ i _ => k - (intOf i).toNat)
      case atStart => exact ⟨0, Nat.zero_le _, rfl, by rw [codeRow_zero, List.append_nil]; exact HO1.out, HB1.out⟩
      case round =>
        clear HO1 HB1
        rename World => w2
        obtain ⟨q, hq, rfl, ho, hb⟩ := hrel
        obtain ⟨a4, c4, e4⟩ := ho.row.slice
        subst e4
        have hlen : (codeTo (adjB L) (allL L.length) k ++ codeRow (adjB L) (allL L.length) (k : Int) q).length ≤ 300 := by
          rw [List.length_append]
          have := codeTo_small (adjB L) (allL L.length) (j := k) (by omega)
          have := codeRow_len (adjB L) (allL L.length) (k : Int) q
          omega
        have kb := KB.out _ hb
        have HO := Lib.hid ho
        have HB := Lib.hid hb
        clear ho hb
        by_cases hql : q < k
        · have HS : Hid (codeRow (adjB L) (allL L.length) (k : Int) (q + 1) = codeRow (adjB L) (allL L.length) (k : Int) q ++ [flagI (hasB (nthR L q) (k : Int))]) := by
            show _ = _
            rw [codeRow_succ _ _ (by rw [allL_len]; omega), allL_nth (by omega), Int.toNat_natCast, Int.toNat_natCast, adjB_has HG.out (by omega) (by omega)]
          obtain ⟨xs, hxs⟩ : ∃ xs, xs = codeTo (adjB L) (allL L.length) k ++ codeRow (adjB L) (allL L.length) (k : Int) q := ⟨_, rfl⟩
          rw [← hxs] at HO hlen ⊢
          have HX := Lib.hid hxs
          clear hxs
          go_wp2_with fail
          refine (l1Edge_any _ L (q : Int) (k : Int) _ (GK.out _ HB.out) (by omega) (by omega)).mono ?_
          rintro e w5 ⟨rfl, hb5⟩
          rw [Int.toNat_natCast]
          have HO5 := Lib.hid (HO.out.keep hb5)
          have HB5 : Hid (Below w0.heap.size w0 w5) := HB.out.trans (hb5.mono HB.out.size)
          have hz5 := HB5.out.size
          clear hb5 HO HB kb
          go_wp2_with fail
          refine (l1Flag_any _ _).mono ?_
          rintro e w' ⟨rfl, rfl⟩
          obtain ⟨f, hf⟩ : ∃ f, f = flagI (hasB (nthR L q) (k : Int)) := ⟨_, rfl⟩
          have hfr := flagI_rng (hasB (nthR L q) (k : Int))
          rw [← hf] at HS hfr ⊢
          clear hf
          go_wp2_with (at_builtin; refine wpList_append_own _ rfl (.tmp 18) (.tmp 24) 29 rfl w0.heap.size 2 i0 (.int .i64 0) 1 8 Try.underlying29 hi hz0 hz1 hz2 rfl (by decide) _ _ _ rfl (HO5.out.owns.alloc _) ⟨w5.heap.size, 0, none⟩ 1 1 [.int .i64 f] rfl rfl (lit1 _ _ _) (one1 _) (by unfold maxLen; omega) (by omega) (by simp; omega) ?_)
          intro v6 w6 hown6 hgrow6 _
          have hb6 : Below w0.heap.size w0 w6 := (HB5.out.alloc hz5 _).grown hgrow6 (by simp; omega) (fun j hj => (HO5.out.lt j hj).1)
          have HO6 : Hid (OwnRow 2 w6 w0.heap.size v6 (codeTo (adjB L) (allL L.length) k ++ codeRow (adjB L) (allL L.length) (k : Int) (q + 1))) := by
            have e : codeTo (adjB L) (allL L.length) k ++ codeRow (adjB L) (allL L.length) (k : Int) (q + 1) = xs ++ [f] := by rw [HS.out, HX.out, List.append_assoc]
            show OwnRow _ _ _ _ _
            rw [e]
            refine OwnRow.of_ownsRow (n := xs.length + 1) (by simpa using hown6) (by simp; unfold maxLen; omega) ?_
            rw [← e]
            exact code_i64
          have HB6 := Lib.hid hb6
          clear hown6 hgrow6 hb6
          go_wp2
          go_roundw
          case rel => exact ⟨q + 1, by omega, by go_num, HO6.out, HB6.out⟩
          case measure => simp [intOf]; omega
        · obtain rfl : q = k := by omega
          have HS : Hid (codeTo (adjB L) (allL L.length) (q + 1) = codeTo (adjB L) (allL L.length) q ++ codeRow (adjB L) (allL L.length) (q : Int) q) := by show _ = _; rw [codeTo, allL_nth (by omega)]
          clear kb
          go_wp2
          go_roundw
          case rel => exact ⟨q + 1, by omega, by go_num, by rw [HS.out]; exact HO.out, HB.out⟩
          case measure => simp [intOf]; omega
    · obtain rfl : k = L.length := by omega
      have HF : Hid (GaveRow w (codeTo (adjB L) (allL L.length) L.length) (.returned (.slice a3 (codeTo (adjB L) (allL L.length) L.length).length c3)) w1) := ⟨_, _, _, rfl, HO1.out.mono HW0.out.size, HW0.out.trans (HB1.out.mono HW0.out.size)⟩
      go_wp2
      go_ret
      exact HF.out

set_option maxHeartbeats 800000 in
theorem specCodeOf_any (v : Value) (L : List (List Int)) (w : World) (h : GridAt w v L) : Calls Try.prog 16 #[.agg #[v]] w (GaveRow w (codeL L)) := by
  obtain ⟨a0, c0, rfl⟩ := h.slice
  have hb0 : Below w.heap.size w (w.alloc (.cells #[.slice a0 L.length c0] 26)) := (Below.refl _ _).alloc (Nat.le_refl _) _
  have HGK : Hid (∀ w', Below w.heap.size w w' → GridAt w' (.slice a0 L.length c0) L) := fun w' hb => h.keep hb
  have HB0 := Lib.hid hb0
  clear h hb0
  go_enter Try.func16, Try.ntmps16
  go_wp2_with fail
  refine (specGraphOk_any _ _ _ (HGK.out _ HB0.out)).mono ?_
  rintro e w1 ⟨rfl, hb1⟩
  have HB1 : Hid (Below w.heap.size w w1) := HB0.out.trans (hb1.mono HB0.out.size)
  have kb1 : w1.cell? ⟨w.heap.size, 0, none⟩ = some (.slice a0 L.length c0) := by rw [hb1.cell (by simp)]; go_simp
  clear hb1
  by_cases hG : GraphP L
  · rw [decide_eq_true hG]
    have HE : Hid (codeL L = codeTo (adjB L) (allL L.length) L.length) := by show _ = _; unfold codeL; rw [if_pos hG]
    have HG := Lib.hid hG
    clear hG
    go_wp2_with fail
    refine (l4Code_any _ L _ (HGK.out _ HB1.out) HG.out).mono ?_
    rintro e w2 ⟨n2, a2, c2, rfl, ho2, hb2⟩
    have HF : Hid (GaveRow w (codeL L) (.returned (.slice a2 n2 c2)) w2) := ⟨_, _, _, rfl, by rw [HE.out]; exact ho2.mono HB1.out.size, HB1.out.trans (hb2.mono HB1.out.size)⟩
    clear ho2 hb2
    go_wp2
    go_ret
    exact HF.out
  · rw [decide_eq_false hG]
    have HE : Hid (codeL L = []) := by show _ = _; unfold codeL; rw [if_neg hG]
    clear hG
    go_wp2
    go_ret
    refine ⟨_, _, _, rfl, ?_, HB1.out.alloc HB1.out.size _⟩
    rw [HE.out]
    exact OwnRow.of_ownsRow (n := 0) (xs := []) (World.ownsRow_lit w1 #[] 0 HB1.out.size (Nat.zero_le _) rfl) (Nat.zero_le _) (fun x hx => absurd hx (by simp))

end Go.Proofs.Ytgeifbgjfbfcfaa

/- Walks: the adjacency code, of the program. -/
namespace Go.Proofs.Ytgeifbgjfbfcfaa
open Go.RowKit

/-- Who is near whom, by masks. -/
def mA (M : Nat → Nat) (a b : Nat) : Bool := (M a).testBit b

theorem listTo_all (n k : Nat) : listTo (2 ^ n - 1) k = allL (min k n) := by
  induction k with
  | zero => simp [allL, listTo]
  | succ k ih =>
    rw [listTo_succ, ih, Nat.testBit_two_pow_sub_one]
    by_cases h : k < n
    · rw [decide_eq_true h, show min (k + 1) n = k + 1 from by omega, show min k n = k from by omega, allL_succ]
      rfl
    · rw [decide_eq_false h, show min (k + 1) n = n from by omega, show min k n = n from by omega]
      simp
theorem listM_all {n : Nat} (hn : n ≤ 16) : listM (2 ^ n - 1) = allL n := by
  show listTo _ 16 = _
  rw [listTo_all, show min 16 n = n from by omega]

/-- The first k cells of a slice, by a slice expression. -/
theorem rowAt_take {w : World} {v : Value} {xs : List Int} (h : RowAt w v xs) {b o c k : Nat} (e : v = .slice (some ⟨b, o, none⟩) xs.length c) (hk : k ≤ xs.length) : ∀ i, i < k → w.cell? ⟨b, o + i, none⟩ = some (.int .i64 (nth xs i)) := by
  intro i hi
  obtain ⟨b', o', c', e', _, _, hc⟩ := h.pos (by omega)
  rw [e] at e'
  simp only [Value.slice.injEq, Option.some.injEq, Addr.mk.injEq, and_true, true_and] at e'
  obtain ⟨⟨rfl, rfl⟩, rfl⟩ := e'
  exact hc i (by omega)

set_option maxHeartbeats 4000000 in
set_option maxRecDepth 100000 in
theorem code_any (g n : Nat) (M : Nat → Nat) (v1 : Value) (xs : List Int) (w : World) (h : NetAt w g n M) (hM : ∀ i, M i < 65536) (h1 : RowAt w v1 xs) (h0 : 0 < xs.length) (hl16 : xs.length ≤ 16) (hx : ∀ i, i < xs.length → 0 ≤ nth xs i ∧ nth xs i < 16) :
    Calls Try.prog 38 #[.pointer (some ⟨g, 0, none⟩), v1] w (GaveRow w (codeTo (mA M) xs xs.length)) := by
  obtain ⟨i0, hi, hz0, hz1, hz2⟩ := info_parts Try.infoI
  obtain ⟨b, o, c, rfl, l1, l2, hc⟩ := h1.pos h0
  have HO0 : Hid (OwnRow 2 (w.alloc (.cells #[] 2)) w.heap.size (.slice (some ⟨w.heap.size, 0, none⟩) 0 0) []) := OwnRow.of_ownsRow (n := 0) (xs := []) (World.ownsRow_lit w #[] 0 (Nat.le_refl _) (Nat.zero_le _) rfl) (Nat.zero_le _) (fun x hx => absurd hx (by simp))
  have HCK : Hid (∀ w', Below w.heap.size w w' → ∀ i, i < xs.length → w'.cell? ⟨b, o + i, none⟩ = some (.int .i64 (nth xs i))) := fun w' hb i hi => cell_keep hb (hc i hi)
  have HNK : Hid (∀ w', Below w.heap.size w w' → NetAt w' g n M) := fun w' hb => h.keep hb
  have HM := Lib.hid hM
  have HX := Lib.hid hx
  clear h hM h1 hc hx
  go_enter Try.func38, Try.ntmps38
  go_wp2_with fail
  go_loopw [5, 14] (fun s i wr => ∃ k : Nat, k ≤ xs.length ∧ i = .int .i64 k ∧ OwnRow 2 wr w.heap.size s (codeTo (mA M) xs k) ∧ Below w.heap.size w wr) (fun _ i _ => xs.length - (intOf i).toNat)
  case atStart => exact ⟨0, Nat.zero_le _, rfl, HO0.out, (Below.refl _ _).alloc (Nat.le_refl _) _⟩
  case round =>
    clear HO0
    obtain ⟨k, hk, rfl, ho, hb⟩ := hrel
    obtain ⟨a3, c3, e3⟩ := ho.row.slice
    subst e3
    have HO := Lib.hid ho
    have HB := Lib.hid hb
    clear ho
    by_cases hlt : k < xs.length
    · have kk := HCK.out _ hb k hlt
      have hxk := HX.out k hlt
      obtain ⟨v, hv⟩ : ∃ v : Nat, nth xs k = (v : Int) := ⟨(nth xs k).toNat, by omega⟩
      rw [hv] at kk
      have HV := Lib.hid hv
      have hv16 : v < 16 := by omega
      have hkc : k ≤ c := by omega
      clear hb hxk hv
      go_wp2_with fail
      go_loopw [5, 23] (fun s i wr => ∃ q : Nat, q ≤ k ∧ i = .int .i64 q ∧ OwnRow 2 wr w.heap.size s (codeTo (mA M) xs k ++ codeRow (mA M) xs (v : Int) q) ∧ Below w.heap.size w wr) (fun _ i _ => k - (intOf i).toNat)
      case atStart => exact ⟨0, Nat.zero_le _, rfl, by rw [codeRow_zero, List.append_nil]; exact HO.out, HB.out⟩
      case round =>
        clear HO HB kk
        rename World => w2
        obtain ⟨q, hq, rfl, ho, hb⟩ := hrel
        obtain ⟨a4, c4, e4⟩ := ho.row.slice
        subst e4
        have hlen : (codeTo (mA M) xs k ++ codeRow (mA M) xs (v : Int) q).length ≤ 300 := by
          rw [List.length_append]
          have := codeTo_small (mA M) xs (j := k) (by omega)
          have := codeRow_len (mA M) xs (v : Int) q
          omega
        have HO := Lib.hid ho
        have HB := Lib.hid hb
        have hz5 := hb.size
        clear ho
        by_cases hql : q < k
        · have kq := HCK.out _ hb q (by omega)
          have hxq := HX.out q (by omega)
          obtain ⟨u, hu⟩ : ∃ u : Nat, nth xs q = (u : Int) := ⟨(nth xs q).toNat, by omega⟩
          rw [hu] at kq
          have hu16 : u < 16 := by omega
          have hu16' : (u : Int) < 16 := by omega
          have km := (HNK.out _ hb).2 u hu16
          have HS : Hid (codeRow (mA M) xs (v : Int) (q + 1) = codeRow (mA M) xs (v : Int) q ++ [flagI (mA M u v)]) := by
            show _ = _
            rw [codeRow_succ _ _ (by omega), hu, Int.toNat_natCast, Int.toNat_natCast]
          have HH : Hid (hasM (M u) (v : Int) = mA M u v) := hasM_nat _ _ hv16
          obtain ⟨ys, hys⟩ : ∃ ys, ys = codeTo (mA M) xs k ++ codeRow (mA M) xs (v : Int) q := ⟨_, rfl⟩
          rw [← hys] at HO hlen ⊢
          have HY := Lib.hid hys
          have fin : Hid (∀ (f : Int) (v6 : Value) (w6 : World), f = flagI (mA M u v) → w6.ownsRow w.heap.size 2 1 v6 (ys.length + 1) ((ys ++ [f]).map (Value.int .i64)) → OwnRow 2 w6 w.heap.size v6 (codeTo (mA M) xs k ++ codeRow (mA M) xs (v : Int) (q + 1))) := fun f v6 w6 hf hown => by
            have e : codeTo (mA M) xs k ++ codeRow (mA M) xs (v : Int) (q + 1) = ys ++ [f] := by rw [HS.out, HY.out, List.append_assoc, hf]
            rw [e]
            refine OwnRow.of_ownsRow (n := ys.length + 1) hown (by simp; unfold maxLen; omega) ?_
            rw [← e]
            exact code_i64
          clear hys hxq hu hb HS
          go_wp2_with fail
          refine (has_any (M u) _ _ (HM.out u)).mono ?_
          rintro e w' ⟨rfl, rfl⟩
          rw [HH.out]
          by_cases hh : mA M u v = true
          · rw [hh]
            have HF : Hid ((1 : Int) = flagI (mA M u v)) := by show _ = _; rw [hh]; rfl
            clear hh km kq
            go_wp2_with (at_builtin; refine wpList_append_own _ rfl (.tmp 35) (.tmp 37) 29 rfl w.heap.size 2 i0 (.int .i64 0) 1 8 Try.underlying29 hi hz0 hz1 hz2 rfl (by decide) _ _ _ rfl (HO.out.owns.alloc _) ⟨w2.heap.size, 0, none⟩ 1 1 [.int .i64 1] rfl rfl (lit1 _ _ _) (one1 _) (by unfold maxLen; omega) (by omega) (by simp; omega) ?_)
            intro v6 w6 hown6 hgrow6 _
            have HB6 : Hid (Below w.heap.size w w6) := (HB.out.alloc hz5 _).grown hgrow6 (by simp; omega) (fun j hj => (HO.out.lt j hj).1)
            have HO6 := Lib.hid (fin.out 1 v6 w6 HF.out (by simpa using hown6))
            clear hown6 hgrow6
            go_wp2
            go_roundw
            case rel => exact ⟨q + 1, by omega, by go_num, HO6.out, HB6.out⟩
            case measure => simp [intOf]; omega
          · have hh' : mA M u v = false := by simpa using hh
            rw [hh']
            have HF : Hid ((0 : Int) = flagI (mA M u v)) := by show _ = _; rw [hh']; rfl
            clear hh hh' km kq
            go_wp2_with (at_builtin; refine wpList_append_own _ rfl (.tmp 35) (.tmp 37) 29 rfl w.heap.size 2 i0 (.int .i64 0) 1 8 Try.underlying29 hi hz0 hz1 hz2 rfl (by decide) _ _ _ rfl (HO.out.owns.alloc _) ⟨w2.heap.size, 0, none⟩ 1 1 [.int .i64 0] rfl rfl (lit1 _ _ _) (one1 _) (by unfold maxLen; omega) (by omega) (by simp; omega) ?_)
            intro v6 w6 hown6 hgrow6 _
            have HB6 : Hid (Below w.heap.size w w6) := (HB.out.alloc hz5 _).grown hgrow6 (by simp; omega) (fun j hj => (HO.out.lt j hj).1)
            have HO6 := Lib.hid (fin.out 0 v6 w6 HF.out (by simpa using hown6))
            clear hown6 hgrow6
            go_wp2
            go_roundw
            case rel => exact ⟨q + 1, by omega, by go_num, HO6.out, HB6.out⟩
            case measure => simp [intOf]; omega
        · obtain rfl : q = k := by omega
          have HS : Hid (codeTo (mA M) xs (q + 1) = codeTo (mA M) xs q ++ codeRow (mA M) xs (v : Int) q) := by show _ = _; rw [codeTo, HV.out]
          clear hb
          go_wp2
          go_roundw
          case rel => exact ⟨q + 1, by omega, by go_num, by rw [HS.out]; exact HO.out, HB.out⟩
          case measure => simp [intOf]; omega
    · obtain rfl : k = xs.length := by omega
      have HF : Hid (GaveRow w (codeTo (mA M) xs xs.length) (.returned (.slice a3 (codeTo (mA M) xs xs.length).length c3)) wr) := ⟨_, _, _, rfl, HO.out, HB.out⟩
      clear hb
      go_wp2
      go_ret
      exact HF.out

set_option maxHeartbeats 1600000 in
theorem implCodeOf_any (v : Value) (L : List (List Int)) (w : World) (h : GridAt w v L) : Calls Try.prog 15 #[.agg #[v]] w (GaveRow w (codeL L)) := by
  obtain ⟨a0, c0, rfl⟩ := h.slice
  have ha : Below w.heap.size w (w.alloc (.cells #[.slice a0 L.length c0] 26)) := (Below.refl _ _).alloc (Nat.le_refl _) _
  have hk := h.keep ha
  have HA := Lib.hid ha
  clear ha
  go_enter Try.func15, Try.ntmps15
  go_wp2_with fail
  refine (netOf_any _ _ _ hk).mono ?_
  rintro e w1 ⟨rfl, hb1⟩
  have HB1 : Hid (Below w.heap.size w w1) := HA.out.trans (hb1.mono (by simp))
  have hz : w.heap.size ≤ w1.heap.size := HB1.out.size
  have hnb := netBlk_new w1 0 (fun _ => 0)
  clear hb1 hk h HA
  by_cases hG : GraphP L
  · have hzz := hG.1
    have HLT : Hid (∀ i, rowM L i < 65536) := fun i => rowM_lt (by omega) (fun v hv => (hG.2.1 v hv).1) i
    have HE : Hid (codeL L = codeTo (mA (rowM L)) (allL L.length) (allL L.length).length) := by show _ = _; unfold codeL; rw [if_pos hG, allL_len]; rfl
    have HW : Hid (listM (2 ^ L.length - 1) = allL L.length) := listM_all hzz.2
    have hwl : 2 ^ L.length - 1 < 65536 := by have : 2 ^ L.length ≤ 2 ^ 16 := Nat.pow_le_pow_right (by omega) hzz.2; omega
    rw [decide_eq_true hG, netArr_yes hG]
    clear hG
    go_wp2_with (refine wpList_store_net rfl 57 (.tmp 3) (.tmp 8) rfl w1.heap.size L.length (rowM L) rfl rfl Try.sizeNet 0 (fun _ => 0) hnb ?_; intro w3 hp3; have kn := hp3.net.at.1; have HN3 := Lib.hid hp3.net.at; have HB3 : Hid (Below w.heap.size w w3) := (HB1.out.alloc hz _).trans (hp3.below.mono hz); clear hp3)
    refine (wholeMask_any L.length _ hzz.2).mono ?_
    rintro e w' ⟨rfl, rfl⟩
    go_wp2_with fail
    refine (list_any _ _ hwl).mono ?_
    rintro e w4 ⟨n4, a4, c4, rfl, ho4, hb4⟩
    rw [HW.out] at ho4
    have HO4 := Lib.hid ho4.row
    have HB34 := Lib.hid hb4
    have HB4 : Hid (Below w.heap.size w w4) := HB3.out.trans (hb4.mono HB3.out.size)
    clear ho4 hb4 kn
    go_wp2_with fail
    refine (code_any w1.heap.size L.length (rowM L) _ (allL L.length) _ (HN3.out.keep HB34.out) HLT.out HO4.out (by rw [allL_len]; omega) (by rw [allL_len]; omega) (fun i hi => by rw [allL_len] at hi; rw [allL_nth hi]; omega)).mono ?_
    rintro e w5 ⟨n5, a5, c5, rfl, ho5, hb5⟩
    have HF : Hid (GaveRow w (codeL L) (.returned (.slice a5 n5 c5)) w5) := ⟨_, _, _, rfl, by rw [HE.out]; exact ho5.mono HB4.out.size, HB4.out.trans (hb5.mono HB4.out.size)⟩
    clear ho5 hb5
    go_wp2
    go_ret
    exact HF.out
  · have HE : Hid (codeL L = []) := by show _ = _; unfold codeL; rw [if_neg hG]
    rw [decide_eq_false hG, netArr_no hG]
    clear hG
    go_wp2_with (refine wpList_store_net rfl 57 (.tmp 3) (.tmp 8) rfl w1.heap.size 0 (fun _ => 0) rfl rfl Try.sizeNet 0 (fun _ => 0) hnb ?_; intro w3 hp3; have HB3 : Hid (Below w.heap.size w w3) := (HB1.out.alloc hz _).trans (hp3.below.mono hz); clear hp3)
    go_wp2
    go_ret
    refine ⟨_, _, _, rfl, ?_, HB3.out⟩
    rw [HE.out]
    exact ⟨fun x hx => absurd hx (by simp), Nat.zero_le _, Or.inl ⟨rfl, rfl⟩⟩
end Go.Proofs.Ytgeifbgjfbfcfaa
