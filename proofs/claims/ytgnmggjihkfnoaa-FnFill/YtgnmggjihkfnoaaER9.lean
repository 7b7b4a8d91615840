/- Walks: FillOf and LaterOf of the program. -/
import Derived.Test.YtgnmggjihkfnoaaQER6

namespace Go.Proofs.Ytgnmggjihkfnoaa
open Go.RowKit

/-- The graph with the later neighbours of the vertices below v, and of v the first k, linked. -/
def linkTo (A : Nat → Nat → Bool) (xs : List Int) (v : Nat) (ys : List Int) (k i j : Nat) : Bool :=
  A i j || (decide (i < v) && laterA A xs i j) || (decide (j < v) && laterA A xs j i) || (i == v && hasB (ys.take k) (j : Int)) || (j == v && hasB (ys.take k) (i : Int))
theorem linkTo_zero (A : Nat → Nat → Bool) (xs : List Int) (ys : List Int) : linkTo A xs 0 ys 0 = A := by
  funext i j
  unfold linkTo
  have h : ∀ z : Int, hasB (ys.take 0) z = false := fun z => hasB_false.2 (by simp)
  rw [h, h]; simp
theorem linkTo_step (A : Nat → Nat → Bool) (xs : List Int) {v k u : Nat} {ys : List Int} (hk : k < ys.length) (e : nth ys k = (u : Int)) : linkTo A xs v ys (k + 1) = linkA (linkTo A xs v ys k) v u := by
  funext i j
  show linkTo A xs v ys (k + 1) i j = (linkTo A xs v ys k i j || (i == v && j == u) || (i == u && j == v))
  unfold linkTo
  rw [take_snoc hk, e, hasB_snoc, hasB_snoc]
  have e1 : ∀ i : Nat, ((i : Int) == (u : Int)) = (i == u) := fun i => by rw [Bool.eq_iff_iff, beq_iff_eq, beq_iff_eq]; omega
  rw [e1, e1]
  cases A i j <;> cases (decide (i < v) && laterA A xs i j) <;> cases (decide (j < v) && laterA A xs j i) <;> cases (i == v) <;> cases (j == v) <;> cases hasB (ys.take k) (i : Int) <;> cases hasB (ys.take k) (j : Int) <;> cases (i == u) <;> cases (j == u) <;> rfl
theorem linkTo_next {A : Nat → Nat → Bool} {n : Nat} (hA : RelP n A) (hn : n ≤ 16) (xs : List Int) {v : Nat} {ys : List Int} (hys : ys = listM (pm (laterA A xs v))) (zs : List Int) : linkTo A xs v ys ys.length = linkTo A xs (v + 1) zs 0 := by
  funext i j
  unfold linkTo
  have h0 : ∀ z : Int, hasB (zs.take 0) z = false := fun z => hasB_false.2 (by simp)
  rw [h0, h0, List.take_length]
  have h1 : ∀ j : Nat, hasB ys (j : Int) = laterA A xs v j := fun j => by
    rw [Bool.eq_iff_iff, hasB_mem, hys, listM_mem]
    constructor
    · rintro ⟨q, hq, hb, e⟩
      have : q = j := by omega
      subst this
      rw [pm_bit, Bool.and_eq_true] at hb
      exact hb.2
    · intro hw
      have hj := (later_range hA hw).2
      exact ⟨j, by omega, by rw [pm_bit, hw]; simp; omega, rfl⟩
  rw [h1, h1]
  have e2 : ∀ i : Nat, decide (i < v + 1) = (decide (i < v) || i == v) := fun i => by
    rw [Bool.eq_iff_iff]; simp; omega
  rw [e2, e2]
  by_cases c1 : i = v
  · subst c1
    by_cases c2 : j = i
    · subst c2; simp
    · have : (j == i) = false := by rw [beq_eq_false_iff_ne]; exact c2
      rw [this]; simp
      cases A i j <;> cases (decide (j < i) && laterA A xs j i) <;> simp
  · have d1 : (i == v) = false := by rw [beq_eq_false_iff_ne]; exact c1
    by_cases c2 : j = v
    · subst c2
      rw [d1]; simp
    · have d2 : (j == v) = false := by rw [beq_eq_false_iff_ne]; exact c2
      rw [d1, d2]; simp
theorem linkTo_all {A : Nat → Nat → Bool} {n : Nat} (hA : RelP n A) {xs : List Int} (hO : OrdP xs n) (hn : n ≤ 16) (zs : List Int) : linkTo A xs 16 zs 0 = fillX A xs := by
  funext i j
  unfold linkTo
  have h0 : ∀ z : Int, hasB (zs.take 0) z = false := fun z => hasB_false.2 (by simp)
  rw [h0, h0]
  obtain ⟨p1, p2⟩ := later_or hA hO i j
  have q1 : (decide (i < 16) && laterA A xs i j) = laterA A xs i j := by
    cases h : laterA A xs i j with
    | false => simp
    | true => have := (later_range hA h).1; simp; omega
  have q2 : (decide (j < 16) && laterA A xs j i) = laterA A xs j i := by
    cases h : laterA A xs j i with
    | false => simp
    | true => have := (later_range hA h).1; simp; omega
  rw [q1, q2, p1]
  cases ha : A i j with
  | false => simp
  | true =>
    have := fill_old A xs ha
    rw [p1] at this
    rw [this]; simp

set_option maxHeartbeats 4000000 in
set_option maxRecDepth 100000 in
theorem implFillOf_any (v v1 : Value) (L : List (List Int)) (xs : List Int) (w : World) (h : GridAt w v L) (h1 : RowAt w v1 xs) : Calls Try.prog 17 #[.agg #[v], v1] w (GaveGB w (fillL L xs) (orderB L xs)) := by
  obtain ⟨a0, c0, rfl⟩ := h.slice
  have T0 := Lib.hid (Two.start w (.slice a0 L.length c0))
  have HGK : Hid (∀ w', Below w.heap.size w w' → GridAt w' (.slice a0 L.length c0) L) := fun w' hb => h.keep hb
  have HRK : Hid (∀ w', Below w.heap.size w w' → RowAt w' v1 xs) := fun w' hb => h1.keep hb
  clear h h1
  go_enter Try.func17, Try.ntmps17
  go_wp2_with fail
  refine (orderedNet_any _ _ L xs _ (HGK.out _ T0.out.bel) (HRK.out _ T0.out.bel)).mono ?_
  rintro e w1 ⟨rfl, hb1⟩
  have T1 := Lib.hid (T0.out.keep hb1)
  have hlt1 := T1.out.lt
  have hnb := netBlk_new w1 0 (fun _ => 0)
  clear hb1 T0
  by_cases hok : orderB L xs = true
  · obtain ⟨hG, hO, _, _⟩ := orderB_yes hok
    have hz := hG.1
    have HI := Lib.hid hok
    have HO := Lib.hid hO
    have HREL := Lib.hid (adjB_rel hG)
    have HF : Hid (fillL L xs = adjL L.length (fillX (adjB L) xs)) := by show _ = _; unfold fillL; rw [hok]; rfl
    rw [hok]
    clear hok hG hO
    go_wp2_with (refine wpList_store_net rfl 63 (.tmp 6) (.tmp 16) rfl w1.heap.size (ordN L xs) (ordM L xs) rfl rfl Try.sizeNet 0 (fun _ => 0) hnb ?_; intro w3 hp; have HN3 := Lib.hid (ord_net hp.net HI.out); have T3 := Lib.hid (T1.out.put hp); clear hp)
    refine (later_any w1.heap.size L.length (adjB L) _ xs _ HN3.out hz HREL.out (HRK.out _ T3.out.bel) HO.out).mono ?_
    rintro e w4 ⟨rfl, hb4⟩
    obtain ⟨M, hM⟩ : ∃ M : Nat → Nat, M = fun i => pm (laterA (adjB L) xs i) := ⟨_, rfl⟩
    have HME : Hid (∀ k, M k = pm (laterA (adjB L) xs k)) := fun k => by rw [hM]
    rw [← hM]
    have HN4 := Lib.hid (HN3.out.keep hb4)
    have T4 := Lib.hid (T3.out.keep hb4)
    have hg4 : w1.heap.size < w4.heap.size := HN4.out.lt
    clear hb4 hnb hM HN3 T3
    go_wp2_with fail
    go_loopw [23] (fun i wr => ∃ k : Nat, k ≤ 16 ∧ i = .int .i64 k ∧ NetBlk 63 wr w1.heap.size L.length (fun i => pm (linkTo (adjB L) xs k [] 0 i)) ∧ Two w (.slice a0 L.length c0) wr) (fun i _ => 16 - (intOf i).toNat)
    case atStart => exact ⟨0, Nat.zero_le _, rfl, by rw [linkTo_zero]; exact HN4.out, T4.out⟩
    case round =>
      obtain ⟨k, hk, rfl, hn, ht⟩ := hrel
      have HN := Lib.hid hn
      have HT := Lib.hid ht
      clear hn ht
      by_cases hlt : k < 16
      · have hltI : (k : Int) < 16 := by omega
        have hix := run_index_masks M k hlt
        have hml : M k < 65536 := by rw [HME.out]; exact pm_lt _
        go_wp2_with fail
        refine (list_any (M k) _ hml).mono ?_
        rintro e w5 ⟨n5, a5, c5, rfl, ho5, hb5⟩
        obtain ⟨ys, hys⟩ : ∃ ys, ys = listM (pm (laterA (adjB L) xs k)) := ⟨_, rfl⟩
        rw [HME.out, ← hys] at ho5
        have hylen : ys.length ≤ 16 := by rw [hys]; exact listM_len _
        obtain ⟨a7, c7, e7⟩ := ho5.row.slice
        simp only [Value.slice.injEq] at e7
        obtain ⟨rfl, rfl, rfl⟩ := e7
        have HV : Hid (∀ i, i < ys.length → ∃ u : Nat, nth ys i = (u : Int) ∧ u < 16 ∧ k ≠ u) := fun i hi => by
          subst hys
          obtain ⟨h1, h2, h3⟩ := vtx_listM hi
          refine ⟨_, h3, h2, fun e => ?_⟩
          rw [← e] at h1
          have h4 : laterA (adjB L) xs k k = false := by unfold laterA; rw [(fillX_rel HREL.out xs).self]; rfl
          rw [h4] at h1; cases h1
        have HNX : Hid (linkTo (adjB L) xs k ys ys.length = linkTo (adjB L) xs (k + 1) [] 0) := linkTo_next HREL.out hz.2 xs hys []
        have HN5 : Hid (NetBlk 63 w5 w1.heap.size L.length (fun i => pm (linkTo (adjB L) xs k ys 0 i))) := by
          have h := HN.out.keep hb5
          have e : linkTo (adjB L) xs k ys 0 = linkTo (adjB L) xs k [] 0 := by unfold linkTo; simp
          rw [e]; exact h
        have HT5 := Lib.hid (HT.out.keep hb5)
        have HO5 : Hid (OwnRow 2 w5 (w1.heap.size + 1) (.slice a5 ys.length c5) ys) := ho5.mono HN.out.lt
        clear hb5 ho5 hix hys HN HT
        go_wp2_with fail
        go_loopw [30] (fun i wr => ∃ q : Nat, q ≤ ys.length ∧ i = .int .i64 q ∧ NetBlk 63 wr w1.heap.size L.length (fun i => pm (linkTo (adjB L) xs k ys q i)) ∧ Two w (.slice a0 L.length c0) wr ∧ Touched w1.heap.size (w1.heap.size + 1) w5 wr) (fun i _ => ys.length - (intOf i).toNat)
        case atStart => exact ⟨0, Nat.zero_le _, rfl, HN5.out, HT5.out, Touched.refl _ _ _⟩
        case round =>
          rename World => w6
          obtain ⟨q, hq, rfl, hn, ht, htc⟩ := hrel
          have HN6 := Lib.hid hn
          have HT6 := Lib.hid ht
          have HTC := Lib.hid htc
          by_cases hql : q < ys.length
          · obtain ⟨u, hu, hu16, hku⟩ := HV.out q hql
            obtain ⟨bx, ox, cx, ex, lx1, lx2, hcx⟩ := (HO5.out.touched htc (Nat.le_refl _)).row.pos (by omega)
            simp only [Value.slice.injEq, true_and] at ex
            obtain ⟨rfl, rfl⟩ := ex
            have hcu := hcx q hql
            rw [hu] at hcu
            have HS : Hid (linkTo (adjB L) xs k ys (q + 1) = linkA (linkTo (adjB L) xs k ys q) k u) := linkTo_step _ _ hql hu
            clear hcx hn ht htc hu
            go_wp2_with fail
            refine (link_any w1.heap.size L.length k u (fun i => pm (linkTo (adjB L) xs k ys q i)) _ HN6.out (fun i => pm_lt _) hlt hu16 hku).mono ?_
            rintro e w8 ⟨rfl, hp8⟩
            have HN8 : Hid (NetBlk 63 w8 w1.heap.size L.length (fun i => pm (linkTo (adjB L) xs k ys (q + 1) i))) := hp8.net.congr rfl (fun i hi => by rw [linkM_pm _ (by omega) (by omega) hku, HS.out])
            have HT8 : Hid (Two w (.slice a0 L.length c0) w8) := ⟨HT6.out.arg.keepB hp8.below (by omega), HT6.out.res.keepB hp8.below (by omega), HT6.out.bel.trans (hp8.below.mono (by omega))⟩
            have HTC8 : Hid (Touched w1.heap.size (w1.heap.size + 1) w5 w8) := HTC.out.trans ⟨hp8.os, hp8.tape, hp8.output, Nat.le_of_eq hp8.size.symm, fun j _ hj => hp8.other j (by omega)⟩
            clear hp8 hcu
            go_wp2
            go_roundw
            case rel => exact ⟨q + 1, by omega, by go_num, HN8.out, HT8.out, HTC8.out⟩
            case measure => simp [intOf]; omega
          · obtain rfl : q = ys.length := by omega
            clear hn ht htc
            go_wp2
            go_roundw
            case rel => exact ⟨k + 1, by omega, by go_num, by rw [← HNX.out]; exact HN6.out, HT6.out⟩
            case measure => simp [intOf]; omega
      · obtain rfl : k = 16 := by omega
        have HAL : Hid (linkTo (adjB L) xs 16 [] 0 = fillX (adjB L) xs) := linkTo_all HREL.out HO.out hz.2 []
        go_wp2_with fail
        refine (graph_any w1.heap.size L.length _ _ HN.out (fun i => pm_lt _) hz.1 hz.2).mono ?_
        rintro e w7 ⟨n7, a7, c7, rfl, ho7, hb7⟩
        have T7 := Lib.hid (HT.out.keep hb7)
        have hlt7 := HT.out.lt
        have kr := T7.out.res.1
        have kf := T7.out.res.2
        have HO7 := Lib.hid ho7
        clear ho7 hb7
        go_wp2
        refine bodyPost_ret (v := .tuple #[.agg #[.slice a7 n7 c7], .bool true]) (by simp [results, Try.results17, go_sem, T7.out.q0]) rfl (T7.out.yes (B := wr.heap.size) ?_ hlt7 HI.out)
        rw [HF.out]
        have ho := HO7.out
        rw [HAL.out] at ho
        exact ho
  · have hok' : orderB L xs = false := by simpa using hok
    have HI := Lib.hid hok'
    rw [hok']
    clear hok hok'
    go_wp2_with (refine wpList_store_net rfl 63 (.tmp 6) (.tmp 16) rfl w1.heap.size (ordN L xs) (ordM L xs) rfl rfl Try.sizeNet 0 (fun _ => 0) hnb ?_; intro w3 hp; have T3 := Lib.hid (T1.out.put hp); have kr := T3.out.res.1; have kf := T3.out.res.2; clear hp)
    exact bodyPost_ret (v := .tuple #[.agg #[.slice none 0 0], .bool false]) (by simp [results, Try.results17, go_sem, T3.out.q0]) rfl (T3.out.no (fillL_no HI.out) HI.out)

end Go.Proofs.Ytgnmggjihkfnoaa
