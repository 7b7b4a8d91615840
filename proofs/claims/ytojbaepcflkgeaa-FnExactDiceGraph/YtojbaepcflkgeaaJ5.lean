/- Walks: paths and loops, as the draws make them. -/
import Derived.Test.YtojbaepcflkgeaaQJ1

namespace Go.Proofs.Ytojbaepcflkgeaa
open Go.RowKit

theorem Midst.linkRaw {w : World} {c nb n b : Nat} {bv : Value} {wr : World} (h : Midst w c bv nb n b wr) (hc : c < w.heap.size) (hb : w.heap.size < b) (hn : n ≤ 16) (x y : Nat) (hx : x < n) (hy : y < n) (hxy : x ≠ y) :
    ∃ a cap, wr.cell? ⟨b, 0, none⟩ = some (.slice a n cap) ∧
      Calls Try.prog 69 #[.agg #[.slice a n cap], .int .i64 (x : Int), .int .i64 (y : Int)] wr (fun e w' => e = .returned (.agg #[.slice a n cap]) ∧ w'.cell? ⟨b, 0, none⟩ = some (.slice a n cap) ∧ Midst w c bv nb n b w') := by
  obtain ⟨M, a, cap, h1, h2, h3, h4, h5⟩ := h
  obtain ⟨g, cap', eg, hBg, hgs, hcell⟩ := h2.place (by rw [maskL_len]; omega)
  rw [maskL_len] at eg
  simp only [Value.slice.injEq, true_and] at eg
  obtain ⟨rfl, rfl⟩ := eg
  have hgne : g ≠ b := by
    obtain ⟨cur, hcur⟩ := h2.blkT
    intro e
    rw [e] at hcur
    have hbb : wr.heap[b]? = _ := h1
    rw [hcur] at hbb
    simp at hbb
  refine ⟨_, _, h1.box.1, ?_⟩
  have hlk := l1Link_own x y g cap (w.heap.size + 1) (maskL n M) wr (by rw [maskL_len]; exact h2) (by have := h1.lt; omega) (by rw [maskL_len]; exact hx) (by rw [maskL_len]; exact hy) (by rw [maskL_len]; exact hn) hxy (M x) (M y) (maskL_nth _ hx) (maskL_nth _ hy)
  rw [maskL_len, maskL_link _ _ _ _ hxy] at hlk
  refine hlk.mono ?_
  rintro e w6 ⟨rfl, ho6, hb6, ht6⟩
  have bt6 : BoxT 30 w6 b (.slice (some ⟨g, 0, none⟩) n cap) := by
    unfold BoxT
    rw [ht6 _ h1.lt (fun e => hgne e.symm)]
    exact h1
  exact ⟨rfl, bt6.box.1, linkM M x y, _, cap, bt6, ho6, h3.keepB hb6 (by omega), h4.keepB hb6 (by omega), h5.under hb6 (by omega)⟩

/-- .. a graph and the word that it is one. -/
def DrewP (w : World) (c : Nat) (bv : Value) (nb n : Nat) (e : Ending) (w' : World) : Prop :=
  ∃ M a cap, e = .returned (.tuple #[.agg #[.slice a n cap], .bool true]) ∧ OwnGrid 2 35 w' w.heap.size (.slice a n cap) (maskL n M) ∧ CurAt w' c bv nb ∧ Touched c (c + 1) w w'
theorem DrewM.pair {w w' : World} {c nb n : Nat} {bv : Value} {a : Option Addr} {cap : Nat} (h : DrewM w c bv nb (.returned (.agg #[.slice a n cap])) w') : DrewP w c bv nb n (.returned (.tuple #[.agg #[.slice a n cap], .bool true])) w' := by
  obtain ⟨n', M, a', cap', _, _, e, ho, hc, ht⟩ := h
  simp only [Ending.returned.injEq, Value.agg.injEq, Array.mk.injEq, List.cons.injEq, Value.slice.injEq, and_true] at e
  obtain ⟨rfl, rfl, rfl⟩ := e
  exact ⟨M, _, _, rfl, ho, hc, ht⟩

theorem l6Of_any (n : Nat) (w : World) (hn1 : 1 ≤ n) (hn : n ≤ 16) : Calls Try.prog 67 #[.int .i64 (n : Int)] w (fun e w' => ∃ a cap, e = .returned (.tuple #[.agg #[.slice a n cap], .bool true]) ∧ OwnGrid 2 35 w' w.heap.size (.slice a n cap) (maskL n (fun _ => 0)) ∧ Below w.heap.size w w') := by
  have hin : inB (n : Int) 1 16 = true := by simp [inB]; omega
  have HI := Lib.hid hin
  have HB0 : Hid (Below w.heap.size w (w.alloc (.cells #[.slice none 0 0] 30))) := (Below.refl _ _).alloc (Nat.le_refl _) _
  have HBX0 : Hid (BoxAt (w.alloc (.cells #[.slice none 0 0] 30)) w.heap.size (.slice none 0 0)) := BoxAt.new _ _ _
  clear hin
  go_enter Try.func67, Try.ntmps67
  go_wp2_with fail
  refine (l1In_any _ _ _ _).mono ?_
  rintro e w' ⟨rfl, rfl⟩
  rw [HI.out]
  go_wp2_with fail
  refine (l1Empty_any n _ (by omega)).mono ?_
  rintro e w2 ⟨n2, a2, c2, rfl, ho2, hb2⟩
  obtain rfl : n2 = n := by
    obtain ⟨a3, c3, e3⟩ := ho2.grid.slice
    simp only [Value.slice.injEq] at e3
    simpa using e3.2.1
  rw [maskL_zero n2 [], size_alloc1] at ho2
  have hbx := HBX0.out.keep hb2
  have hbc := hbx.1
  have hbf := hbx.2
  have HQ : Hid ((w2.setCell ⟨w.heap.size, 0, none⟩ (.slice a2 n2 c2)).cell? ⟨w.heap.size, 0, none⟩ = some (.slice a2 n2 c2)) := cell_set_same _ hbx.1
  have HO := Lib.hid ho2
  have HB : Hid (Below w.heap.size w w2) := HB0.out.trans (hb2.mono HB0.out.size)
  clear hbx ho2 hb2
  go_wp2
  refine bodyPost_ret (v := .tuple #[.agg #[.slice a2 n2 c2], .bool true]) (by simp [results, Try.results67, go_sem, HQ.out]) rfl ⟨a2, c2, rfl, ?_, HB.out.setCell (Nat.le_refl _) _⟩
  exact (HO.out.setBelow (by simp) _).mono (by omega)

set_option maxHeartbeats 1600000 in
theorem pathGraph_any (c nb n : Nat) (bv : Value) (w : World) (hc : CurAt w c bv nb) (hn1 : 1 ≤ n) (hn : n ≤ 16) : Calls Try.prog 38 #[.int .i64 (n : Int)] w (DrewP w c bv nb n) := by
  have hcw := hc.lt
  have HC := Lib.hid hc
  have HB0 : Hid (Below w.heap.size w (w.alloc (.cells #[.slice none 0 0] 30))) := (Below.refl _ _).alloc (Nat.le_refl _) _
  have HBX0 : Hid (BoxAt (w.alloc (.cells #[.slice none 0 0] 30)) w.heap.size (.slice none 0 0)) := BoxAt.new _ _ _
  clear hc
  go_enter Try.func38, Try.ntmps38
  go_wp2_with fail
  refine (l6Of_any n _ hn1 hn).mono ?_
  rintro e w2 ⟨a2, c2, rfl, ho2, hb2⟩
  rw [size_alloc1] at ho2
  have hs2 : w.heap.size + 1 ≤ w2.heap.size := by have := hb2.size; rw [size_alloc1] at this; exact this
  have hbl2 : Below w.heap.size w w2 := HB0.out.trans (hb2.mono HB0.out.size)
  have hst : Below w2.heap.size w2 (w2.alloc (.cells #[.slice a2 n c2] 30)) := (Below.refl _ _).alloc (Nat.le_refl _) _
  have hmid : Midst w c bv nb n w2.heap.size (w2.alloc (.cells #[.slice a2 n c2] 30)) :=
    ⟨_, a2, c2, BoxT.new _ _ _, ho2.keep hst, (HBX0.out.keep hb2).keep hst, (HC.out.keepB hbl2 hcw).keepB hst (by omega), Touched.ofBelow (hbl2.trans (hst.mono (by omega)))⟩
  have HM := Lib.hid hmid
  clear ho2 hb2 hbl2 hst hmid
  go_wp2_with fail
  go_loopw [6] (fun i wr => ∃ k : Nat, 1 ≤ k ∧ k ≤ n ∧ i = .int .i64 k ∧ Midst w c bv nb n w2.heap.size wr) (fun i _ => n - (intOf i).toNat)
  case atStart => exact ⟨1, Nat.le_refl _, hn1, rfl, HM.out⟩
  case round =>
    obtain ⟨k, hk1, hk, rfl, hmid⟩ := hrel
    have HM4 := Lib.hid hmid
    clear hmid
    by_cases hlt : k < n
    · have dk : decide ((k : Int) < (n : Int)) = true := by simpa using hlt
      obtain ⟨k', rfl⟩ : ∃ k', k = k' + 1 := ⟨k - 1, by omega⟩
      obtain ⟨a6, cap6, kb6, hlk⟩ := HM4.out.link hcw (by omega) hn k' (k' + 1) (by omega) hlt (by omega)
      have HLK := Lib.hid hlk
      clear hlk
      go_wp2_with fail
      have eK : (((k' + 1 : Nat) : Int) - 1) = (k' : Int) := by omega
      first
        | refine HLK.out.mono ?_
        | (simp only [eK]; refine HLK.out.mono ?_)
      rintro e w7 ⟨rfl, kb7, kf7, hm7⟩
      have HM7 := Lib.hid hm7
      clear hm7
      go_wp2
      go_roundw
      case rel => exact ⟨k' + 1 + 1, by omega, by omega, by go_num, HM7.out⟩
      case measure => simp [intOf]; omega
    · obtain rfl : k = n := by omega
      obtain ⟨a8, cap8, kb8, k08, f08, q08, hp8⟩ := HM4.out.done hcw hn1 hn
      have HP := Lib.hid hp8.pair
      have HQ := Lib.hid q08
      clear hp8 q08
      go_wp2
      exact bodyPost_ret (v := .tuple #[.agg #[.slice a8 k cap8], .bool true]) (by simp [results, Try.results38, go_sem, HQ.out]) rfl HP.out

end Go.Proofs.Ytojbaepcflkgeaa
