/- The texts EN7, EN8, joined. -/
import Derived.Test.YtgeifbgjfbfcfaaQEN5
import Derived.Test.YtgeifbgjfbfcfaaX4
import Derived.Test.YtgeifbgjfbfcfaaQF1
import Derived.Deep.RegionHeld3

/- Walks: the first list by which a graph stands for a pattern. -/
namespace Go.Proofs.Ytgeifbgjfbfcfaa
open Go.RowKit Go.Shelf
attribute [local go_sem] Oper.semAt_some

theorem eqn_in (d : Nat) (a : Option Addr) (n c : Nat) (w : World) : (Op.equalIn (d + 1) 29 (.slice a n c) (.slice none 0 0)).run Try.prog w = .ok a.isNone w := by
  cases a <;> simp [Op.equalIn, run_underlying Try.underlying29]
theorem eqn_nil (a : Option Addr) (n c : Nat) (w : World) : (Op.equal 29 (.slice a n c) (.slice none 0 0)).run Try.prog w = .ok a.isNone w := eqn_in 9999 a n c w
theorem eqn_no (a : Addr) (n c : Nat) (w : World) : (binOp .eql 29 (.slice (some a) n c) (.slice none 0 0)).run Try.prog w = .ok (.bool false) w := by
  simp [binOp, eqn_nil]
theorem eqn_yes (w : World) : (binOp .eql 29 (.slice none 0 0) (.slice none 0 0)).run Try.prog w = .ok (.bool true) w := by
  simp [binOp, eqn_nil]

set_option maxHeartbeats 1000000 in
theorem clone_any (b n c : Nat) (xs : List Int) (w : World) (hr : RowAt w (.slice (some ⟨b, 0, none⟩) n c) xs) (h1 : 1 ≤ xs.length) (h16 : xs.length ≤ 16) :
    Calls Try.prog 40 #[.slice (some ⟨b, 0, none⟩) n c] w (GaveRow w xs) := by
  obtain ⟨i0, hi, hz0, hz1, hz2⟩ := info_parts Try.infoI
  obtain ⟨b', o, c', e1, l1, l2, hc⟩ := hr.pos (by omega)
  simp only [Value.slice.injEq, Option.some.injEq, Addr.mk.injEq, and_true] at e1
  obtain ⟨⟨rfl, rfl⟩, rfl, rfl⟩ := e1
  have hq := eqn_no ⟨b, 0, none⟩ xs.length c
  have HI := Lib.hid hr.1
  have hown0 : (w.alloc (.cells #[] 2)).ownsRow w.heap.size 2 1 (.slice (some ⟨w.heap.size, 0, none⟩) 0 0) 0 [] := World.ownsRow_lit w #[] 0 (Nat.le_refl _) (Nat.zero_le _) rfl
  have HO0 := Lib.hid hown0
  have HNEW : Hid (∀ j u, (xs.map (Value.int .i64))[j]? = some u → (w.alloc (.cells #[] 2)).cell? ((⟨b, 0, none⟩ : Addr).add j) = some u) := fun j u hj => by
    rw [List.getElem?_map] at hj
    cases hx : xs[j]? with
    | none => rw [hx] at hj; simp at hj
    | some y =>
      rw [hx] at hj
      simp at hj
      obtain ⟨hlt, e⟩ := List.getElem?_eq_some_iff.1 hx
      have := cell_keep ((Below.refl w.heap.size w).alloc (Nat.le_refl _) (.cells #[] 2)) (hc j hlt)
      rw [nth_eq hlt, e, hj] at this
      rw [Addr.add_lit]; exact this
  clear hr hown0 hc
  go_enter Try.func40, Try.ntmps40
  go_wp2_with (at_builtin; refine wpList_append_own _ rfl (.tmp 5) (.tmp 6) 29 rfl w.heap.size 2 i0 (.int .i64 0) 1 8 Try.underlying29 hi hz0 hz1 hz2 rfl (by decide) _ _ _ rfl HO0.out ⟨b, 0, none⟩ xs.length c (xs.map (Value.int .i64)) rfl (by simp) HNEW.out (ints_one _) (by unfold maxLen; omega) (by omega) (by simp) ?_)
  intro v6 w6 hown6 hgrow6 _
  have hb6 : Below w.heap.size w w6 := ((Below.refl _ _).alloc (Nat.le_refl _) _).grown hgrow6 (by simp) (fun j hj => by simp [Value.ownBlock] at hj; omega)
  have ho6 : OwnRow 2 w6 w.heap.size v6 xs := OwnRow.of_ownsRow (n := 0 + xs.length) (by simpa using hown6) (by unfold maxLen; omega) HI.out
  obtain ⟨a6, c6, e6⟩ := ho6.row.slice
  subst e6
  have HB6 := Lib.hid hb6
  have HO6 := Lib.hid ho6
  clear hown6 hgrow6 hb6 ho6 hq
  go_wp2
  go_ret
  exact ⟨_, _, _, rfl, HO6.out, HB6.out⟩

theorem OwnRow.kept2 {T : TypeId} {w w' : World} {B : Nat} {v : Value} {xs : List Int} (h : OwnRow T w B v xs) (hk : ∀ (k : Nat) (cs : Array Value) (fr : Nat × Nat), w.heap[k]? = some (Obj.cells cs T fr) → w'.heap[k]? = some (Obj.cells cs T fr)) : OwnRow T w' B v xs := by
  obtain ⟨h1, h2, h3⟩ := h
  refine ⟨h1, h2, ?_⟩
  rcases h3 with h3 | ⟨g, cap, cur, e, hg, hh, r⟩
  · exact Or.inl h3
  · exact Or.inr ⟨g, cap, cur, e, hg, hk _ _ _ hh, r⟩
/-- A row of one's own, and a yes or no. -/
def GaveFB (w : World) (xs : List Int) (ok : Bool) (e : Ending) (w' : World) : Prop :=
  ∃ m a c, e = .returned (.tuple #[.slice a m c, .bool ok]) ∧ OwnRow 2 w' w.heap.size (.slice a m c) xs ∧ Below w.heap.size w w'

/-- The lists that leastFit goes through. -/
def turnsL (Mp : Nat → Nat) (np n : Nat) (M : Nat → Nat) : List (List Int) := enumL (turnN (wiseN (patM Mp) np n (hostM M)) n (twN M n)) np []

theorem ChoiceAt.later {T : Nat → Prop} {w w' : World} {cf : Nat} {lb : Array Value} {sz : Nat} {C : List Int → Nat} (h : ChoiceAt T w cf lb sz C) (hk : KeepsBut T w w') : ChoiceAt T w' cf lb sz C :=
  fun W v xs hW hr hx hl => h W v xs (hk.trans hW) hr hx hl

/-- The choices are laid. -/
theorem turns_choice {w0 w1 w2 w3 : World} {bn n : Nat} {M : Nat → Nat} {bp np : Nat} {Mp : Nat → Nat} {pp pt pn pw : Nat} {T : Nat → Prop} (hn : n ≤ 16) (hnp : np ≤ 16) (hM : ∀ i, M i < 65536) (hMp : ∀ i, Mp i < 65536)
    (h : NetAt w1 bn n M) (hp : NetAt w1 bp np Mp) (kp : w1.cell? ⟨pp, 0, none⟩ = some (.pointer (some ⟨bp, 0, none⟩))) (kt : w1.cell? ⟨pt, 0, none⟩ = some (.pointer (some ⟨bn, 0, none⟩)))
    (hb : KeepsBut T w1 w2) {pt2 : Nat} (kn2 : w2.cell? ⟨pn, 0, none⟩ = some (.func (.func 106) #[] #[.pointer (some ⟨pp, 0, none⟩), .pointer (some ⟨pt, 0, none⟩)])) (kt2 : w2.cell? ⟨pt2, 0, none⟩ = some (.pointer (some ⟨bn, 0, none⟩))) (htb : TabBlk w2 pw (twN M n))
    (t1 : ¬ T pp) (t2 : ¬ T pt) (t3 : ¬ T bn) (t4 : ¬ T bp) (t5 : ¬ T pn) (t6 : ¬ T pt2) (t7 : ¬ T pw) :
    ChoiceAt T w2 76 #[.pointer (some ⟨pn, 0, none⟩), .pointer (some ⟨pt2, 0, none⟩), .pointer (some ⟨pw, 0, none⟩)] np (turnN (wiseN (patM Mp) np n (hostM M)) n (twN M n)) :=
  twins1_choice T w2 pn pt2 pw bn n 106 np _ M (twN M n) _ (enters_of Try.func106 (by kernel_rfl) rfl)
    ((fitting1_choice T w1 pp pt bn n M bp np Mp kp kt h hp hn hnp hM hMp t1 t2 t3 t4).later hb) (fun xs => wiseN_lt _ _ _ _ _) hn (twN_lt M n) kn2 kt2 (h.but hb t3) htb t5 t6 t3 t7

/-- Nothing is found yet. -/
def FitI (w : World) (pre : List (List Int)) (W : World) : Prop :=
  pre = [] ∧ W.heap[w.heap.size]? = some (.cells #[.slice none 0 0] 29 (0, 0)) ∧ W.heap[w.heap.size + 1]? = some (.cells #[.bool false] 4 (0, 0)) ∧ Below w.heap.size w W
/-- A list is found. -/
def FitD (w : World) (xs : List Int) (W : World) : Prop :=
  ∃ val, W.heap[w.heap.size]? = some (.cells #[val] 29 (0, 0)) ∧ W.heap[w.heap.size + 1]? = some (.cells #[.bool true] 4 (0, 0)) ∧ OwnRow 2 W w.heap.size val xs ∧ Below w.heap.size w W
theorem FitD.put {w : World} {xs : List Int} {A : World} {l : Nat} {ob : Obj} (h : FitD w xs A) (hl : w.heap.size ≤ l) (ho : A.heap[l]? = some ob) (hob : ∀ cs U fr, ob ≠ Obj.cells cs U fr) (o : Obj) : FitD w xs (A.putObj l o) := by
  obtain ⟨val, h3, h4, h5, h6⟩ := h
  have hk : ∀ (k : Nat) (cs : Array Value) (U : TypeId) (fr : Nat × Nat), A.heap[k]? = some (Obj.cells cs U fr) → (A.putObj l o).heap[k]? = some (Obj.cells cs U fr) := fun k cs U fr hh => by
    refine (World.putObj_heap_other (fun e => ?_)).trans hh
    subst e; rw [ho] at hh; exact hob _ _ _ (Option.some.inj hh)
  exact ⟨val, hk _ _ _ _ h3, hk _ _ _ _ h4, h5.kept2 (fun k cs fr => hk k cs _ fr), h6.trans (below_put A l o hl (Array.getElem?_eq_some_iff.1 ho).1)⟩

set_option maxHeartbeats 4000000 in
set_option maxRecDepth 100000 in
theorem leastFit_any (bn n : Nat) (M : Nat → Nat) (bp np : Nat) (Mp : Nat → Nat) (w : World) (h : NetAt w bn n M) (hp : NetAt w bp np Mp) (hn : n ≤ 16) (hnp1 : 1 ≤ np) (hnp : np ≤ 16) (hM : ∀ i, M i < 65536) (hMp : ∀ i, Mp i < 65536) :
    Calls Try.prog 42 #[.pointer (some ⟨bn, 0, none⟩), .pointer (some ⟨bp, 0, none⟩)] w (GaveFB w (firstL (turnsL Mp np n M)) (decide (turnsL Mp np n M ≠ []))) := by
  obtain ⟨Z, hZ⟩ : ∃ Z, turnsL Mp np n M = Z := ⟨_, rfl⟩
  rw [hZ]
  have HZ := Lib.hid hZ
  clear hZ
  obtain ⟨W0, hW0⟩ : ∃ W0, (w.alloc (.cells #[.slice none 0 0] 29)).alloc (.cells #[.bool false] 4) = W0 := ⟨_, rfl⟩
  have hb0 : Below w.heap.size w W0 := by rw [← hW0]; exact ((Below.refl _ _).alloc (Nat.le_refl _) _).alloc (by simp) _
  have hs0 : W0.heap.size = w.heap.size + 2 := by rw [← hW0]; simp
  have HI0 : Hid (FitI w [] W0) := by
    refine ⟨rfl, ?_, ?_, hb0⟩
    · rw [← hW0]; exact (Below.heap_alloc _ _ _ (by simp)).trans (World.alloc_heap_new w _)
    · rw [← hW0]; have := World.alloc_heap_new (w.alloc (.cells #[.slice none 0 0] 29)) (.cells #[.bool false] 4); rwa [World.size_alloc] at this
  have kp0 : W0.cell? ⟨bp, 0, none⟩ = some (.int .i64 (np : Int)) := cell_keep hb0 hp.1
  have KP : Hid (∀ W', Below W0.heap.size W0 W' → W'.cell? ⟨bp, 0, none⟩ = some (.int .i64 (np : Int))) := fun W' hb => cell_keep hb kp0
  have HNN : Hid (∀ W', Below W0.heap.size W0 W' → NetAt W' bn n M ∧ NetAt W' bp np Mp) := fun W' hb => ⟨(h.keep hb0).keep hb, (hp.keep hb0).keep hb⟩
  have hlb : bn < w.heap.size ∧ bp < w.heap.size := ⟨block_lt_of_cell h.1, block_lt_of_cell hp.1⟩
  have HS0 := Lib.hid hs0
  have HW0 := Lib.hid hW0
  have HB0 := Lib.hid hb0
  clear h hp hb0 hs0 hW0
  refine calls_marks Try.func42 rfl ?_
  simp only [Try.ntmps42, List.size_toArray, List.length_cons, List.length_nil, Nat.reduceAdd, Nat.reduceSub, Array.replicate_succ, Array.replicate_zero, List.push_toArray, List.append_toArray, List.nil_append, List.cons_append]
  go_wp2_with fail
  rw [HW0.out]
  go_region_held3 (fun wx => wx.cell? ⟨bp, 0, none⟩ = some (.int .i64 (np : Int))) (first | exact kp0 | with_reducible exact KP.out _ (Below.refl _ _).drew | exact ka | exact kb | exact kc)
    (first
      | (go_at_call 82; refine (fitting_any _ _ _).mono ?_; rintro e wa ⟨rfl, hwa⟩; have HWA := Lib.hid hwa; have HBA : Hid (Below W0.heap.size W0 wa) := (by rw [hwa]; exact ((Below.refl _ _).drew.alloc (Nat.le_refl _) _).alloc (by simp) _); have ka := KP.out _ HBA.out; clear hwa)
      | (go_at_call 36; refine (twinsInTurn_any bn n M _ _ _ _ (HNN.out _ HBA.out).1 hn hM).mono ?_; rintro e wb ⟨pw, rfl, hpw, k1, k2, htb, hbb⟩; have HBB : Hid (Below W0.heap.size W0 wb) := HBA.out.trans (hbb.mono HBA.out.size); have HBAB := Lib.hid hbb; have K1 := Lib.hid k1; have K2 := Lib.hid k2; have HTB := Lib.hid htb; have HPW := Lib.hid hpw; have kb := KP.out _ HBB.out; clear hbb k1 k2 htb hpw)
      | (go_at_call 35; refine (lists_any np _ _ _ _).mono ?_; rintro e wc ⟨rfl, hwc⟩; have HWC := Lib.hid hwc; have HBC : Hid (Below wb.heap.size wb wc) := (by rw [hwc]; exact ((Below.refl _ _).alloc (Nat.le_refl _) _).alloc (by simp) _); have kc := cell_keep HBC.out kb; clear hwc))
  have hsz0 : (W0.drew).heap.size = W0.heap.size := rfl
  have kpA : wa.cell? ⟨W0.heap.size + 1, 0, none⟩ = some (.pointer (some ⟨bp, 0, none⟩)) := by rw [HWA.out]; go_simp
  have ktA : wa.cell? ⟨W0.heap.size, 0, none⟩ = some (.pointer (some ⟨bn, 0, none⟩)) := by rw [HWA.out]; go_simp
  have hch := turns_choice (w0 := w) (w3 := w) (T := fun _ => False) (pp := W0.heap.size + 1) (pt := W0.heap.size) (pn := wa.heap.size + 1) (pt2 := wa.heap.size) (pw := pw) hn hnp hM hMp (HNN.out _ HBA.out).1 (HNN.out _ HBA.out).2 kpA ktA (KeepsBut.below HBAB.out) K2.out K1.out HTB.out id id id id id id id
  have kps : wc.cell? ⟨wb.heap.size, 0, none⟩ = some (.int .i64 (np : Int)) := by rw [HWC.out]; go_simp
  have kpn : wc.cell? ⟨wb.heap.size + 1, 0, none⟩ = some (.func (.func 76) #[] #[.pointer (some ⟨wa.heap.size + 1, 0, none⟩), .pointer (some ⟨wa.heap.size, 0, none⟩), .pointer (some ⟨pw, 0, none⟩)]) := by rw [HWC.out]; go_simp
  have HSQ := Lib.hid (lists1_seq 8 (fun _ => False) wc wb.heap.size (wb.heap.size + 1) np 76 _ _ (enters_of Try.func76 (by kernel_rfl) rfl) (hch.later (KeepsBut.below HBC.out)) (fun xs => turnN_lt _ _ _ _) hnp (fun k h => h.elim) kps kpn id id)
  have HZ2 : Hid (enumL (turnN (wiseN (patM Mp) np n (hostM M)) n (twN M n)) np [] = Z) := HZ.out
  rw [HZ2.out] at HSQ
  have HB0C : Hid (Below W0.heap.size W0 wc) := HBB.out.trans (HBC.out.mono HBB.out.size)
  have hzc : w.heap.size + 2 ≤ wc.heap.size := by have := HB0C.out.size; have := HS0.out; omega
  have HI1 : Hid (FitI w [] wc) := by
    obtain ⟨h1, h2, h3, h4⟩ := HI0.out
    have := HS0.out
    exact ⟨rfl, (HB0C.out.block _ (by omega)).trans h2, (HB0C.out.block _ (by omega)).trans h3, h4.trans (HB0C.out.mono (by omega))⟩
  have HLEN : Hid (∀ x, x ∈ Z → x.length = np) := fun x hx => by
    rw [← HZ2.out] at hx
    have := enum_len hx
    simpa using this
  clear hch kps kpn kpA ktA ka kb kc kp0 HWA HWC HBA HBB HBAB K1 K2 HTB HPW HBC HI0 KP HNN HW0 HB0 HB0C HZ HZ2 hsz0
  go_wp2_with fail
  refine (wpIn_wide (n := 9)).1 ?_
  refine wpIn_rangeFunc_row rfl (by omega) (gf := 73) (lb := #[.pointer (some ⟨wb.heap.size, 0, none⟩), .pointer (some ⟨wb.heap.size + 1, 0, none⟩)]) rfl trivial (enters_of Try.func73 (by kernel_rfl) rfl)
    HSQ.out (fun k h => h.elim) rfl
    (fun pre W => FitI w pre W)
    (fun c _ W => c = .ret ∧ Z ≠ [] ∧ FitD w (firstL Z) W)
    (fun s A B hs hb => ⟨hs.1, (hb.block _ (by omega)).trans hs.2.1, (hb.block _ (by omega)).trans hs.2.2.1, hs.2.2.2.trans (hb.mono (by omega))⟩)
    (fun _ _ _ _ o hs hl => ⟨hs.1, hs.2.1, hs.2.2.put (by omega) hl (fun _ _ _ e => by cases e) o⟩)
    HI1.out
    ?a1 ?assign ?body ?done ?stop
  case assign =>
    intro l b W K hK
    gi_wp2
    exact hK
  case body =>
    intro l pre x b W hI hsz hbl hpx hrow
    obtain ⟨rfl, hr1, hr2, hb⟩ := hI
    obtain ⟨t, ht⟩ := hpx
    have hfx : firstL Z = x := by rw [← ht]; rfl
    have hZn : Z ≠ [] := fun e => by rw [e] at ht; simp at ht
    have hl := HLEN.out x (by rw [← ht]; simp)
    have HCL := Lib.hid (clone_any b np np x W hrow (by omega) (by omega))
    have HR1 := Lib.hid hr1
    have HR2 := Lib.hid hr2
    have HB := Lib.hid hb
    have HFX := Lib.hid hfx
    have HZN := Lib.hid hZn
    clear hr1 hr2 hb hrow ht hfx hZn hl
    gi_wp2_with fail
    refine ⟨trivial, ?_⟩
    refine (CallsIn.inRound l (callsIn_wide.2 HCL.out)).mono ?_
    rintro e w7 ⟨n7, a7, c7, rfl, ho7, hb7⟩
    have h1 := (hb7.block w.heap.size (by omega)).trans HR1.out
    have h2 := (hb7.block (w.heap.size + 1) (by omega)).trans HR2.out
    have kc1 : w7.cell? ⟨w.heap.size, 0, none⟩ = some (.slice none 0 0) := by rw [cell_of_row w7 _ 0 _ _ _ h1]; rfl
    have kf1 : w7.frozen? ⟨w.heap.size, 0, none⟩ = false := frozen_of_row w7 _ 0 _ _ h1
    have kc2 : w7.cell? ⟨w.heap.size + 1, 0, none⟩ = some (.bool false) := by rw [cell_of_row w7 _ 0 _ _ _ h2]; rfl
    have kf2 : w7.frozen? ⟨w.heap.size + 1, 0, none⟩ = false := frozen_of_row w7 _ 0 _ _ h2
    have HF : Hid (FitD w (firstL Z) ((w7.setCell ⟨w.heap.size, 0, none⟩ (.slice a7 n7 c7)).setCell ⟨w.heap.size + 1, 0, none⟩ (.bool true))) := by
      refine ⟨.slice a7 n7 c7, ?_, ?_, ?_, ?_⟩
      · rw [heap_setCell_other _ _ _ _ (by show w.heap.size ≠ w.heap.size + 1; omega)]; exact heap_setCell_same _ _ 0 _ _ _ h1
      · exact heap_setCell_same _ _ 0 #[.bool false] _ _ (by rw [heap_setCell_other _ _ _ _ (by show w.heap.size + 1 ≠ w.heap.size; omega)]; exact h2)
      · rw [HFX.out]
        exact ((ho7.setBelow (a := ⟨w.heap.size, 0, none⟩) (by show w.heap.size < _; omega) _).setBelow (a := ⟨w.heap.size + 1, 0, none⟩) (by show w.heap.size + 1 < _; omega) _).mono (by omega)
      · exact (((HB.out.trans (hb7.mono (by omega))).setCell (p := ⟨w.heap.size, 0, none⟩) (Nat.le_refl _) _)).setCell (p := ⟨w.heap.size + 1, 0, none⟩) (by show _ ≤ w.heap.size + 1; omega) _
    have HKB : Hid (KeepsBut (fun k => k < wc.heap.size) W ((w7.setCell ⟨w.heap.size, 0, none⟩ (.slice a7 n7 c7)).setCell ⟨w.heap.size + 1, 0, none⟩ (.bool true))) :=
      ((KeepsBut.below hb7).trans (KeepsBut.setCell _ _ _ (by show w.heap.size < _; omega))).trans (KeepsBut.setCell _ _ _ (by show w.heap.size + 1 < _; omega))
    clear ho7 hb7 h1 h2
    gi_wp2
    exact ⟨HKB.out, rfl, HZN.out, HF.out⟩
  case done =>
    intro D W hI hD hK
    obtain ⟨hz, hr1, hr2, hb⟩ := hI
    have kc1 : W.cell? ⟨w.heap.size, 0, none⟩ = some (.slice none 0 0) := by rw [cell_of_row W _ 0 _ _ _ hr1]; rfl
    have kf1 : W.frozen? ⟨w.heap.size, 0, none⟩ = false := frozen_of_row W _ 0 _ _ hr1
    have kc2 : W.cell? ⟨w.heap.size + 1, 0, none⟩ = some (.bool false) := by rw [cell_of_row W _ 0 _ _ _ hr2]; rfl
    have kf2 : W.frozen? ⟨w.heap.size + 1, 0, none⟩ = false := frozen_of_row W _ 0 _ _ hr2
    have hDW : D < W.heap.size := (Array.getElem?_eq_some_iff.1 hK).1
    have HZE := Lib.hid hz
    obtain ⟨W2, hW2⟩ : ∃ W2, (W.setCell ⟨w.heap.size, 0, none⟩ (.slice none 0 0)).setCell ⟨w.heap.size + 1, 0, none⟩ (.bool false) = W2 := ⟨_, rfl⟩
    have hKs : W2.heap[D]? = some (.deferred (some [])) := by
      rw [← hW2, heap_setCell_other _ _ _ _ (by show D ≠ w.heap.size + 1; omega), heap_setCell_other _ _ _ _ (by show D ≠ w.heap.size; omega)]; exact hK
    have h1 : W2.heap[w.heap.size]? = some (.cells #[.slice none 0 0] 29 (0, 0)) := by
      rw [← hW2, heap_setCell_other _ _ _ _ (by show w.heap.size ≠ w.heap.size + 1; omega)]; exact heap_setCell_same _ _ 0 #[.slice none 0 0] _ _ hr1
    have h2 : W2.heap[w.heap.size + 1]? = some (.cells #[.bool false] 4 (0, 0)) := by
      rw [← hW2]; exact heap_setCell_same _ _ 0 #[.bool false] _ _ (by rw [heap_setCell_other _ _ _ _ (by show w.heap.size + 1 ≠ w.heap.size; omega)]; exact hr2)
    have HC1 : Hid ((W2.putObj D (.deferred none)).cell? ⟨w.heap.size, 0, none⟩ = some (.slice none 0 0)) := by
      show _ = _; rw [cell_of_row _ _ 0 _ _ _ ((World.putObj_heap_other (by omega)).trans h1)]; rfl
    have HC2 : Hid ((W2.putObj D (.deferred none)).cell? ⟨w.heap.size + 1, 0, none⟩ = some (.bool false)) := by
      show _ = _; rw [cell_of_row _ _ 0 _ _ _ ((World.putObj_heap_other (by omega)).trans h2)]; rfl
    have hb2 : Below w.heap.size w W2 := by
      rw [← hW2]; exact (hb.setCell (p := ⟨w.heap.size, 0, none⟩) (Nat.le_refl _) _).setCell (p := ⟨w.heap.size + 1, 0, none⟩) (by show _ ≤ w.heap.size + 1; omega) _
    have HFB : Hid (Below w.heap.size w (W2.putObj D (.deferred none))) := hb2.trans (below_put _ D _ (by omega) (Array.getElem?_eq_some_iff.1 hKs).1)
    have HKS := Lib.hid hKs
    have HW2 := Lib.hid hW2
    clear hr1 hr2 hb hK hKs h1 h2 hb2 hz hW2
    go_wp2
    rw [HW2.out]
    refine ⟨by simp, .inl ⟨_, _, rfl, run_takeDeferred HKS.out, ?_⟩⟩
    refine ⟨.tuple #[.slice none 0 0, .bool false], by simp [results, Try.results42, go_sem, HC1.out, HC2.out], ?_⟩
    have hze := HZE.out
    subst hze
    exact ⟨0, none, 0, rfl, ⟨by simp [firstL], Nat.zero_le _, .inl ⟨rfl, rfl⟩⟩, HFB.out⟩
  case stop =>
    rintro D c pre W _ _ ⟨rfl, hZn, hF⟩ hD hK
    have hDW : D < W.heap.size := (Array.getElem?_eq_some_iff.1 hK).1
    obtain ⟨val, h3, h4, h5, h6⟩ := hF.put (l := D) (by omega) hK (fun _ _ _ e => by cases e) (.deferred none)
    have HC1 : Hid ((W.putObj D (.deferred none)).cell? ⟨w.heap.size, 0, none⟩ = some val) := by show _ = _; rw [cell_of_row _ _ 0 _ _ _ h3]; rfl
    have HC2 : Hid ((W.putObj D (.deferred none)).cell? ⟨w.heap.size + 1, 0, none⟩ = some (.bool true)) := by show _ = _; rw [cell_of_row _ _ 0 _ _ _ h4]; rfl
    obtain ⟨a3, c3, e3⟩ := h5.row.slice
    subst e3
    have HO := Lib.hid h5
    have HFB := Lib.hid h6
    have HZN := Lib.hid hZn
    have HK := Lib.hid hK
    clear hF h3 h4 h5 h6 hZn hK
    refine (wpIn_wide (n := 9)).2 ?_
    go_wp2
    refine ⟨by simp, .inl ⟨_, _, rfl, run_takeDeferred HK.out, ?_⟩⟩
    refine ⟨.tuple #[.slice a3 (firstL Z).length c3, .bool true], by simp [results, Try.results42, go_sem, HC1.out, HC2.out], ?_⟩
    rw [decide_eq_true HZN.out]
    exact ⟨_, _, _, rfl, HO.out, HFB.out⟩

end Go.Proofs.Ytgeifbgjfbfcfaa

/- Plain facts: the first list in which twins come in turn is the first of all. -/
namespace Go.Proofs.Ytgeifbgjfbfcfaa

theorem twin_iff {M : Nat → Nat} (hM : ∀ i, M i < 65536) {u v : Nat} (hu : u < 16) (hv : v < 16) : twinB M u v = true ↔ ∀ x, x ≠ u → x ≠ v → (M u).testBit x = (M v).testBit x := by
  unfold twinB
  have h1 := xor_lt (hM u) (hM v)
  rw [beq_iff_eq]
  constructor
  · intro h x hxu hxv
    have : (clrM (clrM (M u ^^^ M v) (2 ^ u)) (2 ^ v)).testBit x = false := by rw [h]; simp
    rw [clrM_bit (clrM_lt _ h1) (pow_lt16 hv), clrM_bit h1 (pow_lt16 hu), Nat.testBit_two_pow, Nat.testBit_two_pow, Nat.testBit_xor, decide_eq_false (by omega), decide_eq_false (by omega)] at this
    simpa using this
  · intro h
    refine bit_ext fun x => ?_
    rw [clrM_bit (clrM_lt _ h1) (pow_lt16 hv), clrM_bit h1 (pow_lt16 hu), Nat.testBit_two_pow, Nat.testBit_two_pow, Nat.testBit_xor]
    by_cases hxu : x = u
    · subst hxu; simp
    · by_cases hxv : x = v
      · subst hxv; simp
      · rw [h x hxu hxv]; simp
/-- u for v, v for u. -/
def swN (u v x : Nat) : Nat := if x = u then v else if x = v then u else x
theorem swN_inj {u v a b : Nat} (h : swN u v a = swN u v b) : a = b := by
  unfold swN at h
  split at h
  · split at h
    · omega
    · split at h <;> omega
  · split at h
    · split at h
      · omega
      · split at h <;> omega
    · split at h
      · omega
      · split at h <;> omega
theorem swN_lt {u v x n : Nat} (hu : u < n) (hv : v < n) (hx : x < n) : swN u v x < n := by unfold swN; split; exact hv; split; exact hu; exact hx
theorem swN_near {A : Nat → Nat → Bool} (hA : ∀ a b, A a b = A b a) {u v : Nat} (ht : ∀ x, x ≠ u → x ≠ v → A u x = A v x) {a b : Nat} (hab : a ≠ b) : A (swN u v a) (swN u v b) = A a b := by
  unfold swN
  by_cases a1 : a = u
  · subst a1
    rw [if_pos rfl, if_neg (fun e => hab e.symm)]
    by_cases b1 : b = v
    · subst b1; rw [if_pos rfl]; exact hA _ _
    · rw [if_neg b1]; exact (ht b (fun e => hab e.symm) b1).symm
  · rw [if_neg a1]
    by_cases a2 : a = v
    · subst a2
      rw [if_pos rfl]
      by_cases b1 : b = u
      · subst b1; rw [if_pos rfl]; exact hA _ _
      · rw [if_neg b1, if_neg (fun e => hab e.symm)]; exact ht b b1 (fun e => hab e.symm)
    · rw [if_neg a2]
      by_cases b1 : b = u
      · subst b1; rw [if_pos rfl, hA a v, hA a b]; exact (ht a a1 a2).symm
      · rw [if_neg b1]
        by_cases b2 : b = v
        · subst b2; rw [if_pos rfl, hA a u, hA a b]; exact ht a a1 a2
        · rw [if_neg b2]
def swL (u v : Nat) (ys : List Int) : List Int := ys.map (fun x => ((swN u v x.toNat : Nat) : Int))
theorem swL_len (u v : Nat) (ys : List Int) : (swL u v ys).length = ys.length := by simp [swL]
theorem swL_nth {u v : Nat} {ys : List Int} {i : Nat} (h : i < ys.length) : nth (swL u v ys) i = ((swN u v (nth ys i).toNat : Nat) : Int) := by
  rw [nth_eq (by rw [swL_len]; exact h), nth_eq h]; simp [swL]
theorem swap_fits {P A : Nat → Nat → Bool} {m n : Nat} (hn : n ≤ 16) (hA : ∀ a b, A a b = A b a) {u v : Nat} (hu : u < n) (hv : v < n) (ht : ∀ x, x ≠ u → x ≠ v → A u x = A v x) {ys : List Int} (h : ys ∈ fitsL P m n A) : swL u v ys ∈ fitsL P m n A := by
  rw [fits_mem hn] at h ⊢
  obtain ⟨h1, h2⟩ := h
  refine ⟨by rw [swL_len]; exact h1, fun i hi => ?_⟩
  obtain ⟨a1, a2, a3, a4⟩ := h2 i hi
  rw [swL_nth (by omega)]
  have hx := swN_lt hu hv (x := (nth ys i).toNat) (by omega)
  refine ⟨by omega, by omega, fun j hj e => ?_, fun j hj => ?_⟩
  · obtain ⟨b1, _⟩ := h2 j (by omega)
    rw [swL_nth (by omega)] at e
    have := swN_inj (u := u) (v := v) (a := (nth ys j).toNat) (b := (nth ys i).toNat) (by omega)
    exact a3 j hj (by omega)
  · obtain ⟨b1, _⟩ := h2 j (by omega)
    rw [swL_nth (by omega), Int.toNat_natCast, Int.toNat_natCast, swN_near hA ht (fun e => a3 j hj (by omega))]
    exact a4 j hj
theorem listM_bit {m x : Nat} : (x : Int) ∈ listM m ↔ x < 16 ∧ m.testBit x = true := by
  rw [listM_mem]
  constructor
  · rintro ⟨i, h1, h2, h3⟩
    obtain rfl : i = x := by omega
    exact ⟨h1, h2⟩
  · rintro ⟨h1, h2⟩; exact ⟨x, h1, h2, rfl⟩
theorem turns_first {Mp : Nat → Nat} {np n : Nat} {M : Nat → Nat} (hn : n ≤ 16) (hM : ∀ i, M i < 65536) (hA : ∀ a b, hostM M a b = hostM M b a) :
    firstL (turnsL Mp np n M) = firstL (fitsL (patM Mp) np n (hostM M)) ∧ (turnsL Mp np n M = [] ↔ fitsL (patM Mp) np n (hostM M) = []) := by
  have hW := wise_enum (P := patM Mp) (m := np) (n := n) (A := hostM M) hn
  rw [← hW]
  refine firstL_narrow (fun zs v hv => ?_) (fun hne i _ hi => ?_)
  · obtain ⟨x, hx, hb, rfl⟩ := (listM_mem _ _).1 hv
    exact (listM_mem _ _).2 ⟨x, hx, ((turnN_bit (fun xs => wiseN_lt _ _ _ _ _)).1 hb).1, rfl⟩
  · simp only [List.length_nil, Nat.zero_add] at hi
    have hin := firstL_mem hne
    obtain ⟨z, hz⟩ : ∃ z, z = firstL (enumL (wiseN (patM Mp) np n (hostM M)) np []) := ⟨_, rfl⟩
    rw [← hz] at hin ⊢
    have hfit := hin
    rw [hW] at hfit
    obtain ⟨hlen, hall⟩ := (fits_mem hn).1 hfit
    have hst := (enum_mem.1 hin).2.2 i (Nat.zero_le _) (by simpa using hi)
    obtain ⟨v, hv16, hvb, hve⟩ := (listM_mem _ _).1 hst
    refine (listM_mem _ _).2 ⟨v, hv16, (turnN_bit (fun xs => wiseN_lt _ _ _ _ _)).2 ⟨hvb, ?_⟩, hve⟩
    refine Classical.not_not.1 fun hno => ?_
    obtain ⟨u, hu⟩ : ∃ u, (twN M n v &&& unN n (z.take i)).testBit u = true := by
      rcases Classical.em (∃ u, (twN M n v &&& unN n (z.take i)).testBit u = true) with h | h
      · exact h
      · exact absurd (bit_ext fun u => ⟨fun hu => absurd ⟨u, hu⟩ h, fun hu => by simp at hu⟩) hno
    rw [Nat.testBit_and, Bool.and_eq_true] at hu
    have hxi : InL (z.take i) := fun j hj => by
      rw [List.length_take] at hj
      rw [nth_take (by omega)]
      have := hall j (by omega)
      omega
    obtain ⟨hu1, hu2⟩ := hu
    rw [unN_bit hn hxi] at hu2
    have hvn : v < n := by have := (hall i hi).2.1; omega
    unfold twN at hu1
    rw [if_pos hvn, twRow_bit (by omega)] at hu1
    obtain ⟨huv, htw⟩ := hu1
    have ht := (twin_iff hM (by omega) hv16).1 htw
    have hs := swap_fits hn hA hu2.1 hvn ht hfit
    rw [← hW] at hs
    have hlt : LexLt (swL u v z) z := by
      refine ⟨i, by rw [swL_len]; omega, by omega, fun j hj => ?_, ?_⟩
      · rw [swL_nth (by omega)]
        have hj1 := hall j (by omega)
        have e1 : (nth z j).toNat ≠ u := fun e => by
          have := hu2.2
          rw [← Bool.not_eq_true, hasB_iff] at this
          exact this ⟨j, by rw [List.length_take]; omega, by rw [nth_take hj]; omega⟩
        have e2 : (nth z j).toNat ≠ v := fun e => (hall i hi).2.2.1 j hj (by omega)
        unfold swN
        rw [if_neg e1, if_neg e2]
        omega
      · rw [swL_nth (by omega), ← hve, Int.toNat_natCast]
        unfold swN
        rw [if_neg (by omega), if_pos rfl]
        omega
    rcases firstL_least (enum_sorted _ _) hs with e | e
    · rw [← hz] at e
      rw [e] at hlt
      exact lex_asymm hlt hlt
    · rw [← hz] at e
      exact lex_asymm hlt e
theorem host_row (L : List (List Int)) : hostM (rowM L) = adjB L := rfl
theorem pat_row {L : List (List Int)} (hG : GraphP L) : patM (rowM L) = adjB L := by
  funext i j
  exact adjB_sym hG j i
/-- What is found first, of two graphs. -/
theorem fit_first {Lp Lg : List (List Int)} (hp : GraphP Lp) (hg : GraphP Lg) : firstL (turnsL (rowM Lp) Lp.length Lg.length (rowM Lg)) = firstL (fitsL (adjB Lp) Lp.length Lg.length (adjB Lg)) ∧ (turnsL (rowM Lp) Lp.length Lg.length (rowM Lg) = [] ↔ fitsL (adjB Lp) Lp.length Lg.length (adjB Lg) = []) := by
  have hz := hg.1
  have := turns_first (Mp := rowM Lp) (np := Lp.length) (n := Lg.length) (M := rowM Lg) hz.2 (fun i => rowM_lt (by omega) (fun v hv => (hg.2.1 v hv).1) i) (fun a b => adjB_sym hg a b)
  rwa [pat_row hp, host_row] at this

end Go.Proofs.Ytgeifbgjfbfcfaa
