/- The texts CX2, ER12, ER13, ER14, ER15, joined. -/
import Derived.Test.YtohjfcfcopbmoaaGreatDoorCX1
import Derived.Test.YtohjfcfcopbmoaaGreatDoorQCQ1
import Derived.Test.YtohjfcfcopbmoaaGreatDoorQER6
import Derived.Deep.RegionHeld3
import Derived.Shelf.Abstract
import Derived.Test.YtohjfcfcopbmoaaGreatDoorQCO1

/- Plain facts: where all vertices can go, there is no chordless loop of four or more vertices, and there is a vertex whose neighbours are near each other. -/
namespace Go.Proofs.YtohjfcfcopbmoaaGreatDoor
open Go.RowKit

section
variable {A : Nat → Nat → Bool} {n : Nat} (hA : RelP n A) (hn : n ≤ 16)
include hA hn

omit hA hn in
/-- Where all can go, one goes at each step. -/
theorem poS_chain (h : pfB A n = true) {k : Nat} (hk : k < n) : ∃ v : Nat, v < n ∧ mayGo A (poS A n k) v = true ∧ poS A n (k + 1) = poS A n k ++ [(v : Int)] := by
  rcases Nat.lt_or_ge (findTo (mayGo A (poS A n k)) n) n with hf | hf
  · exact ⟨_, hf, findTo_yes hf, by rw [poS, if_pos hf]⟩
  · have hle := findTo_le (mayGo A (poS A n k)) n
    have := poS_no (A := A) hk (by omega)
    rw [h] at this; cases this

/-- Where all can go, there is no chordless loop. -/
theorem pf_noLoop (h : pfB A n = true) : NoLoop A := by
  classical
  intro xs hL h4
  cases hc : noCh A xs with
  | false => rfl
  | true =>
    exfalso
    have hch := (noCh_iff A xs).1 hc
    have hln : ∀ i, i < xs.length → vtxN xs i < n := fun i hi => by
      by_cases e : i + 1 < xs.length
      · exact (hA.range _ _ (hL.step i e)).1
      · have := hL.step (i - 1) (by omega)
        rw [show i - 1 + 1 = i by omega] at this
        exact (hA.range _ _ this).2
    have key : ∀ k, k ≤ n → ∀ i, i < xs.length → hasB (poS A n k) (vtxN xs i : Int) = false := by
      intro k
      induction k with
      | zero => intro _ i _; exact hasB_false.2 (by simp [poS])
      | succ k ih =>
        intro hk i hi
        have h1 := ih (by omega)
        obtain ⟨v, hv, hm, e⟩ := poS_chain h (k := k) (by omega)
        rw [e, hasB_false, List.mem_append, List.mem_singleton]
        rintro (hx | hx)
        · exact hasB_false.1 (h1 i hi) hx
        · have hx : vtxN xs i = v := by omega
          subst hx
          unfold mayGo at hm
          rw [Bool.and_eq_true, beq_iff_eq] at hm
          have hnear : ∀ p q, p < xs.length → q < xs.length → p ≠ q → A (vtxN xs i) (vtxN xs p) = true → A (vtxN xs i) (vtxN xs q) = true → A (vtxN xs p) (vtxN xs q) = true := fun p q hp hq hpq h2 h3 => by
            refine miss_pair hA hn (leftB_range hA _ _) hm.2 ?_ ?_ (fun e => hpq (hL.inj _ _ hp hq e))
            · unfold leftB; rw [h2, h1 p hp]; rfl
            · unfold leftB; rw [h3, h1 q hq]; rfl
          by_cases e0 : i = 0
          · subst e0
            have := hnear 1 (xs.length - 1) (by omega) (by omega) (by omega) (hL.step 0 (by omega)) hL.close
            rw [hch (xs.length - 1) 1 (by omega) (by omega) (by omega)] at this; cases this
          · have hp := hL.step (i - 1) (by omega)
            rw [show i - 1 + 1 = i by omega, hA.sym] at hp
            by_cases e1 : i + 1 = xs.length
            · have hz := hL.close
              rw [show xs.length - 1 = i by omega, hA.sym] at hz
              have := hnear 0 (i - 1) (by omega) (by omega) (by omega) hz hp
              rw [hch (i - 1) 0 (by omega) (by omega) (by omega)] at this; cases this
            · have := hnear (i - 1) (i + 1) (by omega) (by omega) (by omega) hp (hL.step i (by omega))
              rw [hch (i + 1) (i - 1) (by omega) (by omega) (by omega)] at this; cases this
    have hfull : (poS A n n).length = n := by
      unfold pfB at h
      exact of_decide_eq_true h
    have hO : OrdP (poS A n n) n := by rw [← (greedy_po hA hn h n (Nat.le_refl _)).1]; exact grL_ord _ _
    have h0 := key n (Nat.le_refl _) 0 (by omega)
    have := ordP_mem hO (hln 0 (by omega))
    exact hasB_false.1 h0 this

omit hA hn in
/-- .. and a vertex whose neighbours are near each other. -/
theorem pf_sim (h : pfB A n = true) (h1 : 1 ≤ n) : ∃ v, v < n ∧ simB A v = true := by
  obtain ⟨v, hv, hm, _⟩ := poS_chain h (k := 0) (by omega)
  refine ⟨v, hv, ?_⟩
  unfold mayGo at hm
  rw [Bool.and_eq_true] at hm
  have : leftB A (poS A n 0) v = A v := funext fun u => by
    unfold leftB
    rw [hasB_false.2 (by simp [poS])]; simp
  rw [this] at hm
  exact hm.2
end

theorem simTo_some {p : Nat → Bool} {k v : Nat} (hv : v < k) (h : p v = true) : simTo p k ≠ [] := by
  induction k with
  | zero => omega
  | succ k ih =>
    rw [simTo]
    split
    · simp
    · rename_i hp
      exact ih (by
        rcases Nat.lt_or_ge v k with h' | h'
        · exact h'
        · obtain rfl : v = k := by omega
          exact absurd h hp)
theorem distinct_len {α : Type} [DecidableEq α] : ∀ (Z W : List α), Z.Nodup → (∀ z ∈ Z, z ∈ W) → Z.length ≤ W.length
  | [], _, _, _ => Nat.zero_le _
  | z :: Z, W, hd, hs => by
    rw [List.nodup_cons] at hd
    have h1 : ∀ y ∈ Z, y ∈ W.erase z := fun y hy => by
      have hne : y ≠ z := fun e => hd.1 (e ▸ hy)
      exact (List.mem_erase_of_ne hne).2 (hs y (List.mem_cons_of_mem _ hy))
    have h2 := distinct_len Z (W.erase z) hd.2 h1
    have h3 := List.length_erase_of_mem (hs z List.mem_cons_self)
    have h4 : 0 < W.length := List.length_pos_of_mem (hs z List.mem_cons_self)
    rw [List.length_cons]
    omega

/-- What is known of a loop makes it one. -/
theorem loop_back {L : List (List Int)} (hG : GraphP L) {xs : List Int} (h : LoopF (adjB L) xs) : loopB L xs = true := by
  have hln : ∀ i, i < xs.length → vtxN xs i < L.length := fun i hi => by
    by_cases e : i + 1 < xs.length
    · exact (adjB_range hG (h.step i e)).1
    · have := h.step (i - 1) (by have := h.len; omega)
      rw [show i - 1 + 1 = i by have := h.len; omega] at this
      exact (adjB_range hG this).2
  have h3 := h.len
  have hnd : xs.Nodup := by
    rw [List.nodup_iff_pairwise_ne, List.pairwise_iff_getElem]
    intro i j hi hj hij e
    have e2 : nth xs i = nth xs j := by rw [nth_eq hi, nth_eq hj]; exact e
    rw [h.at_ i hi, h.at_ j hj] at e2
    have := h.inj i j hi hj (by omega)
    omega
  have hle : xs.length ≤ L.length := by
    have := distinct_len xs (allL L.length) hnd (fun z hz => by
      obtain ⟨i, hi, rfl⟩ := List.getElem_of_mem hz
      rw [← nth_eq hi, h.at_ i hi]
      exact (allL_mem _ _).2 ⟨_, hln i hi, rfl⟩)
    rwa [allL_len] at this
  have hp : PathP L xs := fun k hk => by
    refine ⟨?_, ?_, fun h0 => ?_⟩
    · have := hln k hk
      rw [h.at_ k hk]
      simp [inB]; omega
    · rw [hasB_false]
      intro hm
      obtain ⟨i, hi, e⟩ := List.getElem_of_mem hm
      have hi2 : i < k := by rw [List.length_take] at hi; omega
      rw [List.getElem_take] at e
      have e2 : nth xs i = nth xs k := by rw [nth_eq (show i < xs.length by omega)]; exact e
      rw [h.at_ i (by omega), h.at_ k hk] at e2
      have := h.inj i k (by omega) hk (by omega)
      omega
    · have := h.step (k - 1) (by omega)
      rw [show k - 1 + 1 = k by omega] at this
      rw [h.at_ k hk]
      show hasB (nthR L (vtxN xs (k - 1))) _ = true
      rw [adjB_has hG (hln (k - 1) (by omega)) (by have := h.lt k hk; omega)]
      exact this
  unfold loopB
  rw [decide_eq_true hG, decide_eq_true h3, decide_eq_true hle, decide_eq_true hp, h.at_ (xs.length - 1) (by omega)]
  have hc := h.close
  have e0 : (nth xs 0).toNat = vtxN xs 0 := rfl
  rw [e0, adjB_has hG (hln 0 (by omega)) (h.lt _ (by omega)), hc]
  rfl
/-- A valid graph: its vertices can all go just if no loop of it has no chord. -/
theorem chordal_iff {L : List (List Int)} (hG : GraphP L) : pfB (adjB L) L.length = true ↔ ∀ xs, chlB L xs = false := by
  have hA : RelP L.length (adjB L) := adjB_rel hG
  have hn : L.length ≤ 16 := hG.1.2
  constructor
  · intro h xs
    cases hc : chlB L xs with
    | false => rfl
    | true =>
      unfold chlB at hc
      rw [Bool.and_eq_true, Bool.and_eq_true, decide_eq_true_iff] at hc
      obtain ⟨_, hL, _, _⟩ := loop_facts hc.1.1
      rw [pf_noLoop hA hn h xs hL hc.1.2] at hc
      cases hc.2
  · intro h
    refine noLoop_pf hA hn (fun xs hL h4 => ?_)
    have := h xs
    unfold chlB at this
    rw [loop_back hG hL, decide_eq_true h4, Bool.true_and, Bool.true_and] at this
    exact this
theorem simpL_some {L : List (List Int)} (hG : GraphP L) (h : pfB (adjB L) L.length = true) : simpL L ≠ [] := by
  obtain ⟨v, hv, hs⟩ := pf_sim h hG.1.1
  unfold simpL
  rw [if_pos hG]
  exact simTo_some hv hs

end Go.Proofs.YtohjfcfcopbmoaaGreatDoor

/- Walks: the cheapest of those that are left, by how many neighbours are left. -/
namespace Go.Proofs.YtohjfcfcopbmoaaGreatDoor
open Go.RowKit Go.Shelf

theorem cmpNaN_any (x : Int) (w : World) : Calls Tryz.prog 283 #[.int .i64 x] w fun e w' => e = .returned (.bool false) ∧ w = w' := by
  have qx : (x != x) = false := by simp
  go_enter Tryz.func283, Tryz.ntmps283
  go_wp2
  go_ret
  exact ⟨rfl, rfl⟩
/-- Which is less. -/
def sgnC (x y : Nat) : Int := if x < y then -1 else if y < x then 1 else 0
set_option maxHeartbeats 2000000 in
theorem cmpNats_any (x y : Nat) (w : World) : Calls Tryz.prog 241 #[.int .i64 (x : Int), .int .i64 (y : Int)] w fun e w' => e = .returned (.int .i64 (sgnC x y)) ∧ w = w' := by
  go_enter Tryz.func241, Tryz.ntmps241
  go_wp2_with fail
  refine (cmpNaN_any x _).mono ?_
  rintro e w' ⟨rfl, rfl⟩
  go_wp2_with fail
  refine (cmpNaN_any y _).mono ?_
  rintro e w' ⟨rfl, rfl⟩
  by_cases h1 : x < y
  · have HE : Hid (sgnC x y = -1) := if_pos h1
    have h1I : (x : Int) < (y : Int) := by omega
    go_wp2
    go_ret
    exact ⟨by rw [HE.out]; rfl, rfl⟩
  · have h1I : ¬ (x : Int) < (y : Int) := by omega
    by_cases h2 : y < x
    · have HE : Hid (sgnC x y = 1) := by show _ = _; unfold sgnC; rw [if_neg h1, if_pos h2]
      have h3 : (x : Int) > (y : Int) := by omega
      go_wp2
      go_ret
      exact ⟨by rw [HE.out]; rfl, rfl⟩
    · have HE : Hid (sgnC x y = 0) := by show _ = _; unfold sgnC; rw [if_neg h1, if_neg h2]
      have h3 : ¬ (x : Int) > (y : Int) := by omega
      go_wp2
      go_ret
      exact ⟨by rw [HE.out]; rfl, rfl⟩

end Go.Proofs.YtohjfcfcopbmoaaGreatDoor

/- Walks: DegeneracyOf of the program. -/
namespace Go.Proofs.YtohjfcfcopbmoaaGreatDoor
open Go.RowKit

theorem remL_none {ys : List Int} {n : Nat} (h : OrdP ys n) : (remL (fun v => hasB ys (v : Int)) n).length = 0 := by
  rw [List.length_eq_zero_iff, List.eq_nil_iff_forall_not_mem]
  intro x hx
  obtain ⟨v, hv, hg, rfl⟩ := remL_mem.1 hx
  exact hasB_false.1 hg (ordP_mem h hv)
theorem remL_some {ys : List Int} {n v : Nat} (hv : v < n) (h : (v : Int) ∉ ys) : 0 < (remL (fun v => hasB ys (v : Int)) n).length :=
  List.length_pos_of_mem (remL_mem.2 ⟨v, hv, hasB_false.2 h, rfl⟩)
theorem remL_at (g : Nat → Bool) {n : Nat} (hn : n ≤ 16) : ∀ i, i < (remL g n).length → ∃ u : Nat, nth (remL g n) i = (u : Int) ∧ u < 16 := fun i hi => by
  obtain ⟨u, hu, _, e⟩ := remL_mem.1 (nth_mem hi)
  exact ⟨u, e.symm, by omega⟩
/-- At work: who is left, and the neighbours that are left. -/
structure DgW (w : World) (g n : Nat) (A : Nat → Nat → Bool) (k : Nat) (wr : World) : Prop where
  rem : RemBlk wr g n (fun i => pm (restX A (grL (restC A) n k) i)) (remL (fun v => hasB (grL (restC A) n k) (v : Int)) n)
  bel : Below w.heap.size w wr
  low : w.heap.size ≤ g

end Go.Proofs.YtohjfcfcopbmoaaGreatDoor

/- Walks: the cheapest of those that are left, by how many edges lack between the neighbours. -/
namespace Go.Proofs.YtohjfcfcopbmoaaGreatDoor
open Go.RowKit Go.Shelf

def lackV (W : Nat → Nat → Bool) (v : Nat) : Nat := missN W (listM (pm (W v)))

set_option maxHeartbeats 2000000 in
set_option maxRecDepth 100000 in
theorem cheapL_any (pc g n u v : Nat) (W : Nat → Nat → Bool) (zs : List Int) (w : World) (kc : w.cell? ⟨pc, 0, none⟩ = some (.func (.func 184) #[.pointer (some ⟨g, 0, none⟩)] #[])) (h : RemBlk w g n (fun i => pm (W i)) zs) (hu : u < 16) (hv : v < 16) (hs : ∀ i j, W i j = W j i) :
    Calls Tryz.prog 252 #[.int .i64 (u : Int), .int .i64 (v : Int), .pointer (some ⟨pc, 0, none⟩)] w fun e w' => e = .returned (.int .i64 (sgnC (lackV W u) (lackV W v))) ∧ Below w.heap.size w w' := by
  have ec := enters_of Tryz.func184 (by kernel_rfl) rfl
  have HB0 : Hid (Below w.heap.size w w.drew) := (Below.refl _ _).drew
  have hcu : Hid (∀ z : Later w, Calls Tryz.prog 184 #[.pointer (some ⟨g, 0, none⟩), .int .i64 (u : Int)] z.at fun e w5 => e = .returned (.int .i64 ((lackV W u : Nat) : Int)) ∧ ∃ t : Later w, w5 = t.at) :=
    fun z => Calls.later (remLack_any g n u W zs _ (h.keep z.bel) hu hs)
  have hcv : Hid (∀ z : Later w, Calls Tryz.prog 184 #[.pointer (some ⟨g, 0, none⟩), .int .i64 (v : Int)] z.at fun e w5 => e = .returned (.int .i64 ((lackV W v : Nat) : Int)) ∧ ∃ t : Later w, w5 = t.at) :=
    fun z => Calls.later (remLack_any g n v W zs _ (h.keep z.bel) hv hs)
  have kl := fun z : Later w => z.cell kc
  obtain ⟨a, ha⟩ : ∃ a, a = lackV W u := ⟨_, rfl⟩
  obtain ⟨b, hb⟩ : ∃ b, b = lackV W v := ⟨_, rfl⟩
  rw [← ha] at hcu ⊢
  rw [← hb] at hcv ⊢
  have hcc : Hid (∀ z : Later w, Calls Tryz.prog 241 #[.int .i64 (a : Int), .int .i64 (b : Int)] z.at fun e w5 => e = .returned (.int .i64 (sgnC a b)) ∧ ∃ t : Later w, w5 = t.at) :=
    fun z => Calls.later ((cmpNats_any a b _).mono (fun e w' hh => ⟨hh.1, by rw [← hh.2]; exact Below.refl _ _⟩))
  clear ha hb h hs
  go_enter Tryz.func252, Tryz.ntmps252
  go_wp2_with fail
  refine wp_region_later (by kernel_rfl) (by kernel_rfl) ?_
  repeat (go_big_quiet_step (first | (go_at_call 184; with_reducible first | exact hcu.out _ | exact hcv.out _) | (go_at_call 241; with_reducible exact hcc.out _)))
  refine wpQuiet_nil ?_
  rintro _ ⟨z, rfl⟩
  have HZZ := Lib.hid z.bel
  generalize z.at = w7 at HZZ ⊢
  clear kl hcu hcv hcc kc
  go_wp2
  go_ret
  exact ⟨rfl, HZZ.out⟩

set_option maxHeartbeats 4000000 in
set_option maxRecDepth 100000 in
theorem minLack_any (pc g n : Nat) (W : Nat → Nat → Bool) (zs : List Int) (w : World) (kc : w.cell? ⟨pc, 0, none⟩ = some (.func (.func 184) #[.pointer (some ⟨g, 0, none⟩)] #[])) (h : RemBlk w g n (fun i => pm (W i)) zs) (hs : ∀ i j, W i j = W j i) (hz : 0 < zs.length) (hz16 : zs.length ≤ 16) (hzs : ∀ i, i < zs.length → ∃ u : Nat, nth zs i = (u : Int) ∧ u < 16) :
    Calls Tryz.prog 250 #[.slice (some ⟨g, 17, none⟩) zs.length 16, .func (.func 252) #[] #[.pointer (some ⟨pc, 0, none⟩)]] w fun e w' => e = .returned (.int .i64 (minTo (fun i => lackV W i) zs (zs.length - 1))) ∧ Below w.heap.size w w' := by
  have ec := enters_of Tryz.func252 (by kernel_rfl) rfl
  have HK : Hid (∀ V, Below w.heap.size w V → V.cell? ⟨pc, 0, none⟩ = some (.func (.func 184) #[.pointer (some ⟨g, 0, none⟩)] #[])) := fun V hb => cell_keep hb kc
  have HR : Hid (∀ V, Below w.heap.size w V → RemBlk V g n (fun i => pm (W i)) zs) := fun V hb => h.keep hb
  have HM := Lib.hid hs
  have HZ := Lib.hid hzs
  obtain ⟨z0, hz0, hz0l⟩ := hzs 0 hz
  have kz0 : w.cell? ⟨g, 17, none⟩ = some (.int .i64 (nth zs 0)) := h.list (i := 0) hz hz16
  rw [hz0] at kz0
  have hzI : ¬ (zs.length : Int) < 1 := by omega
  have HZ0 := Lib.hid hz0
  clear kc h hs hzs hz0
  go_enter Tryz.func250, Tryz.ntmps250
  go_wp2_with fail
  clear kz0
  go_loopw [5, 6] (fun s i wr => ∃ (k m : Nat), 1 ≤ k ∧ k ≤ zs.length ∧ i = .int .i64 k ∧ s = .int .i64 (m : Int) ∧ m < 16 ∧ (m : Int) = minTo (fun i => lackV W i) zs (k - 1) ∧ Below w.heap.size w wr) (fun _ i _ => zs.length - (intOf i).toNat)
  case atStart => exact ⟨1, z0, Nat.le_refl _, hz, rfl, rfl, hz0l, HZ0.out.symm, Below.refl _ _⟩
  case round =>
    obtain ⟨k, m, hk1, hk, rfl, rfl, hm, hmt, hb⟩ := hrel
    have HB := Lib.hid hb
    have HMT := Lib.hid hmt
    have hr := HR.out _ hb
    clear hb hmt
    by_cases hlt : k < zs.length
    · obtain ⟨u, hu, hu16⟩ := HZ.out k hlt
      have kk := hr.list hlt hz16
      rw [hu] at kk
      have hkI : (k : Int) < (zs.length : Int) := by omega
      have HU := Lib.hid hu
      have HC : Hid (Calls Tryz.prog 252 #[.int .i64 (u : Int), .int .i64 (m : Int), .pointer (some ⟨pc, 0, none⟩)] wr fun e w' => e = .returned (.int .i64 (sgnC (lackV W u) (lackV W m))) ∧ Below wr.heap.size wr w') := cheapL_any pc g n u m W zs wr (HK.out _ HB.out) hr hu16 hm HM.out
      have HT : Hid (minTo (fun i => lackV W i) zs k = if lackV W u < lackV W m then (u : Int) else (m : Int)) := by
        show _ = _
        obtain ⟨j, rfl⟩ : ∃ j, k = j + 1 := ⟨k - 1, by omega⟩
        rw [minTo, HU.out]
        have := HMT.out
        rw [Nat.add_sub_cancel] at this
        rw [← this, Int.toNat_natCast, Int.toNat_natCast]
      have HK2 : Hid (∀ V, Below wr.heap.size wr V → V.cell? ⟨g, 17 + k, none⟩ = some (.int .i64 (u : Int))) := fun V hb => cell_keep hb kk
      clear hu hr
      obtain ⟨a, ha⟩ : ∃ a, a = lackV W u := ⟨_, rfl⟩
      obtain ⟨b, hb⟩ : ∃ b, b = lackV W m := ⟨_, rfl⟩
      rw [← ha, ← hb] at HC HT
      clear ha hb
      go_wp2_with fail
      refine HC.out.mono ?_
      rintro e w5 ⟨rfl, hb5⟩
      have kk5 := HK2.out _ hb5
      have HB5 : Hid (Below w.heap.size w w5) := HB.out.trans (hb5.mono HB.out.size)
      clear hb5 kk
      by_cases hab : a < b
      · have HE : Hid (minTo (fun i => lackV W i) zs (k + 1 - 1) = (u : Int)) := by show _ = _; rw [Nat.add_sub_cancel, HT.out, if_pos hab]
        rw [show sgnC a b = -1 from if_pos hab]
        go_wp2
        go_roundw
        case rel => exact ⟨k + 1, u, by omega, by omega, by go_num, rfl, hu16, HE.out.symm, HB5.out⟩
        case measure => simp [intOf]; omega
      · have HE : Hid (minTo (fun i => lackV W i) zs (k + 1 - 1) = (m : Int)) := by show _ = _; rw [Nat.add_sub_cancel, HT.out, if_neg hab]
        have hs : ¬ sgnC a b < 0 := by unfold sgnC; rw [if_neg hab]; split <;> omega
        clear kk5
        go_wp2
        go_roundw
        case rel => exact ⟨k + 1, m, by omega, by omega, by go_num, rfl, hm, HE.out.symm, HB5.out⟩
        case measure => simp [intOf]; omega
    · obtain rfl : k = zs.length := by omega
      clear hr
      go_wp2
      go_ret
      exact ⟨by rw [← HMT.out]; rfl, HB.out⟩

set_option maxHeartbeats 2000000 in
set_option maxRecDepth 100000 in
theorem remCheapL_any (g n : Nat) (W : Nat → Nat → Bool) (zs : List Int) (w : World) (h : RemBlk w g n (fun i => pm (W i)) zs) (hs : ∀ i j, W i j = W j i) (hz : 0 < zs.length) (hz16 : zs.length ≤ 16) (hzs : ∀ i, i < zs.length → ∃ u : Nat, nth zs i = (u : Int) ∧ u < 16) :
    Calls Tryz.prog 209 #[.pointer (some ⟨g, 0, none⟩), .func (.func 184) #[.pointer (some ⟨g, 0, none⟩)] #[]] w fun e w' => e = .returned (.int .i64 (minTo (fun i => lackV W i) zs (zs.length - 1))) ∧ Below w.heap.size w w' := by
  have hmf : ∀ (fn : Fn) (first cap : Array Value) (w : World), (Instr.makeFunc fn first cap).run Tryz.prog w = .ok (.func fn first cap) w := fun _ _ _ _ => rfl
  have HB0 : Hid (Below w.heap.size w (w.alloc (.cells #[.func (.func 184) #[.pointer (some ⟨g, 0, none⟩)] #[]] 117))) := (Below.refl _ _).alloc (Nat.le_refl _) _
  have HX0 : Hid (BoxAt (w.alloc (.cells #[.func (.func 184) #[.pointer (some ⟨g, 0, none⟩)] #[]] 117)) w.heap.size (.func (.func 184) #[.pointer (some ⟨g, 0, none⟩)] #[])) := BoxAt.new _ _ _
  have HR := Lib.hid (h.keep HB0.out)
  have HM := Lib.hid hs
  have HZ := Lib.hid hzs
  clear h hs hzs
  go_enter Tryz.func209, Tryz.ntmps209
  go_wp2_with fail
  refine (remList_any g n (fun i => pm (W i)) zs _ HR.out hz16).mono ?_
  rintro e w1 ⟨rfl, hd1⟩
  have HB1 : Hid (Below w.heap.size w w1) := HB0.out.trans ((hd1.below _).mono HB0.out.size)
  have HR1 := Lib.hid (HR.out.drawn hd1)
  have HX1 := Lib.hid (cell_drawn hd1 HX0.out.1)
  clear hd1
  go_wp2_with fail
  refine (minLack_any w.heap.size g n W zs _ HX1.out HR1.out HM.out hz hz16 HZ.out).mono ?_
  rintro e w2 ⟨rfl, hb2⟩
  have HB2 : Hid (Below w.heap.size w w2) := HB1.out.trans (hb2.mono HB1.out.size)
  clear hb2
  go_wp2
  go_ret
  exact ⟨rfl, HB2.out⟩

end Go.Proofs.YtohjfcfcopbmoaaGreatDoor

/- Walks: all are eliminated, the cheapest first. -/
namespace Go.Proofs.YtohjfcfcopbmoaaGreatDoor
open Go.RowKit

/-- At work: who is left, what they have become, and the list so far. -/
structure ElW (w : World) (g n : Nat) (A : Nat → Nat → Bool) (c : List Int → Nat → Nat) (k : Nat) (v : Value) (wr : World) : Prop where
  rem : RemBlk wr g n (fun i => pm (webX A (grL c n k) i)) (remL (fun v => hasB (grL c n k) (v : Int)) n)
  out : OwnRow 2 wr w.heap.size v (grL c n k)
  bel : Below g w wr
  siz : w.heap.size ≤ wr.heap.size
/-- The list of all, and the block of what was left turned. -/
def GaveEl (w : World) (g : Nat) (xs : List Int) (e : Ending) (w' : World) : Prop :=
  ∃ a m c, e = .returned (.slice a m c) ∧ OwnRow 2 w' w.heap.size (.slice a m c) xs ∧ Below g w w' ∧ w.heap.size ≤ w'.heap.size

end Go.Proofs.YtohjfcfcopbmoaaGreatDoor
