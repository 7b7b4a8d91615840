/- Walks: the form of a decomposition (l9Form of the model), and the graph of its links (webOf of the program). -/
import Derived.Test.YtohjfcfcopbmoaaQDE1
import Derived.Test.YtohjfcfcopbmoaaG1
import Derived.IntWalk

namespace Go.Proofs.Ytohjfcfcopbmoaa
open Go.RowKit

/-- One to sixteen bags, at most sixteen links, each of two bags, the lesser one first. -/
def FormP (B K : List (List Int)) : Prop := K.length ≤ 16 ∧ OfP (B.length : Int) K
instance (B K : List (List Int)) : Decidable (FormP B K) := by unfold FormP; infer_instance
/-- The graph of the links. -/
def webL (B K : List (List Int)) : List (List Int) := if FormP B K then ofL (B.length : Int) K else []

set_option maxHeartbeats 1000000 in
theorem l9Form_any (v u : Value) (B K : List (List Int)) (w : World) (h : GridAt w v B) (h' : GridAt w u K) :
    Calls Try.prog 45 #[.agg #[v, u]] w fun e w' => e = .returned (.bool (decide (FormP B K))) ∧ Below w.heap.size w w' := by
  have hl := h.len
  have hl' := h'.len
  unfold maxLen at hl hl'
  obtain ⟨a, c, rfl⟩ := h.slice
  by_cases hin : inB (B.length : Int) 1 16 = true
  · have h5 : (1 : Int) ≤ B.length ∧ (B.length : Int) ≤ 16 := by simpa [inB] using hin
    have hb16 : 1 ≤ B.length ∧ B.length ≤ 16 := by omega
    clear h5
    have HIN := Lib.hid hin
    by_cases hk : K.length ≤ 16
    · have hkI : ¬ (16 : Int) < (K.length : Int) := by omega
      by_cases h0 : K.length = 0
      · obtain ⟨a', c', rfl⟩ := h'.zero h0
        have hE : Hid (decide (FormP B K) = true) := decide_eq_true ⟨hk, hin, by omega, fun k hk' => by omega⟩
        have HB : Hid (Below w.heap.size w (w.alloc (.cells #[.slice a B.length c, .slice a' 0 c'] 27))) := (Below.refl _ _).alloc (Nat.le_refl _) _
        clear h h' h0 hin
        go_enter Try.func45, Try.ntmps45
        go_wp2_with fail
        refine (l1In_any _ _ _ _).mono ?_
        rintro e w' ⟨rfl, rfl⟩
        rw [HIN.out]
        go_wp2
        refine wp_loop_rounds 1 ?_
        rw [rounds_succ]
        go_wp2
        go_ret
        exact ⟨ret_bool hE.out.symm, HB.out⟩
      · obtain ⟨b, o, c', A, C, rfl, l1, l2, hc⟩ := h'.pos (by omega)
        have HB : Hid (Below w.heap.size w (w.alloc (.cells #[.slice a B.length c, .slice (some ⟨b, o, none⟩) K.length c'] 27))) := (Below.refl _ _).alloc (Nat.le_refl _) _
        have X0 := Lib.hid (Box2.new w (.slice a B.length c) (.slice (some ⟨b, o, none⟩) K.length c') 27)
        have HC : Hid (∀ i, i < K.length → ∀ W, Below w.heap.size w W → W.cell? ⟨b, o + i, none⟩ = some (.slice (A i) (nthR K i).length (C i)) ∧ RowAt W (.slice (A i) (nthR K i).length (C i)) (nthR K i)) := fun i hi W hb => ⟨cell_keep hb (hc i hi).1, (hc i hi).2.keep hb⟩
        clear h h' hc h0 hin
        go_enter Try.func45, Try.ntmps45
        go_wp2_with fail
        refine (l1In_any _ _ _ _).mono ?_
        rintro e w' ⟨rfl, rfl⟩
        rw [HIN.out]
        go_wp2
        generalize (w.alloc (.cells #[.slice a B.length c, .slice (some ⟨b, o, none⟩) K.length c'] 27)) = w1 at HB X0 ⊢
        go_loopw [4] (fun i wr => ∃ k : Nat, k ≤ K.length ∧ i = .int .i64 k ∧ (∀ j, j < k → EdgeP (nthR K j) (B.length : Int)) ∧ Drawn w1 wr) (fun i _ => K.length - (intOf i).toNat)
        case atStart => exact ⟨0, Nat.zero_le _, rfl, (fun j hj => absurd hj (by omega)), Drawn.refl _⟩
        case round =>
          obtain ⟨k, hk', rfl, he, hd⟩ := hrel
          have HE := Lib.hid he
          have HD := Lib.hid hd
          have HBR : Hid (Below w.heap.size w wr) := HB.out.trans (hd.below _)
          have x1 := X0.out.keep (hd.below _)
          have k1 := x1.c1
          clear he hd x1
          by_cases hlt : k < K.length
          · obtain ⟨hck, hrow⟩ := HC.out k hlt wr HBR.out
            have hkI2 : (k : Int) < (K.length : Int) := by omega
            by_cases h2 : (nthR K k).length = 2
            · have HI2 := Lib.hid h2
              rw [h2] at hck hrow
              have hES := Lib.hid (edge_set (n := (B.length : Int)) h2)
              clear h2
              go_wp2_with fail
              refine (l1Set_any _ _ _ _ hrow (by omega) (by omega)).mono ?_
              rintro e w2 ⟨rfl, hd2⟩
              have HD2 := Lib.hid (HD.out.trans hd2)
              clear hd2 hck hrow k1
              by_cases hS : SetP (nthR K k) (B.length : Int)
              · have HSS := Lib.hid (hES.out.1 hS)
                rw [decide_eq_true hS]
                clear hS
                go_wp2
                go_roundw
                case rel => exact ⟨k + 1, by omega, by go_num, (fun j hj => by rcases Nat.lt_succ_iff_lt_or_eq.1 hj with h | h; exact HE.out j h; subst h; exact HSS.out), HD2.out⟩
                case measure => simp [intOf]; omega
              · have HSS : Hid (decide (FormP B K) = false) := decide_eq_false (fun hf => hS (hES.out.2 (hf.2.2.2 k hlt)))
                rw [decide_eq_false hS]
                clear hS
                go_wp2
                go_ret
                exact ⟨ret_bool HSS.out.symm, HB.out.trans (HD2.out.below _)⟩
            · have HSS : Hid (decide (FormP B K) = false) := decide_eq_false (fun hf => h2 (hf.2.2.2 k hlt).1)
              have hneI : (((nthR K k).length : Int) != 2) = true := by rw [bne_iff_ne]; omega
              have h2I : ¬ ((nthR K k).length : Int) = 2 := by omega
              clear h2 hrow
              go_wp2
              go_ret
              exact ⟨ret_bool HSS.out.symm, HBR.out⟩
          · obtain rfl : k = K.length := by omega
            have HSS : Hid (decide (FormP B K) = true) := decide_eq_true ⟨hk, HIN.out, by omega, HE.out⟩
            go_wp2
            go_ret
            exact ⟨ret_bool HSS.out.symm, HBR.out⟩
    · have hE : Hid (decide (FormP B K) = false) := decide_eq_false (fun hf => hk hf.1)
      obtain ⟨a', c', rfl⟩ := h'.slice
      have hkI : (16 : Int) < (K.length : Int) := by omega
      have HB : Hid (Below w.heap.size w (w.alloc (.cells #[.slice a B.length c, .slice a' K.length c'] 27))) := (Below.refl _ _).alloc (Nat.le_refl _) _
      clear h h' hin hk
      go_enter Try.func45, Try.ntmps45
      go_wp2_with fail
      refine (l1In_any _ _ _ _).mono ?_
      rintro e w' ⟨rfl, rfl⟩
      rw [HIN.out]
      go_wp2
      go_ret
      exact ⟨ret_bool hE.out.symm, HB.out⟩
  · have hin' : inB (B.length : Int) 1 16 = false := by simpa using hin
    have HIN := Lib.hid hin'
    have hE : Hid (decide (FormP B K) = false) := decide_eq_false (fun hf => hin hf.2.1)
    obtain ⟨a', c', rfl⟩ := h'.slice
    have HB : Hid (Below w.heap.size w (w.alloc (.cells #[.slice a B.length c, .slice a' K.length c'] 27))) := (Below.refl _ _).alloc (Nat.le_refl _) _
    clear h h' hin hin'
    go_enter Try.func45, Try.ntmps45
    go_wp2_with fail
    refine (l1In_any _ _ _ _).mono ?_
    rintro e w' ⟨rfl, rfl⟩
    rw [HIN.out]
    go_wp2
    go_ret
    exact ⟨ret_bool hE.out.symm, HB.out⟩

/-- The graph of the links has been handed back, of the call's own make, and whether there is one. -/
def GaveWeb (w : World) (B K : List (List Int)) (e : Ending) (w' : World) : Prop :=
  ∃ m a c, e = .returned (.tuple #[.agg #[.slice a m c], .bool (decide (FormP B K))]) ∧ OwnGrid 2 33 w' w.heap.size (.slice a m c) (webL B K) ∧ Below w.heap.size w w'

set_option maxHeartbeats 1000000 in
theorem webOf_any (v u : Value) (B K : List (List Int)) (w : World) (h : GridAt w v B) (h' : GridAt w u K) :
    Calls Try.prog 46 #[.agg #[v, u]] w (GaveWeb w B K) := by
  have hl := h.len
  have hl' := h'.len
  unfold maxLen at hl hl'
  obtain ⟨a, c, rfl⟩ := h.slice
  obtain ⟨a', c', rfl⟩ := h'.slice
  have hbel : Below w.heap.size w ((w.alloc (.cells #[.slice a B.length c, .slice a' K.length c'] 27)).alloc (.cells #[.slice none 0 0] 37)) := ((Below.refl _ _).alloc (Nat.le_refl _) _).alloc (by simp) _
  have HG := Lib.hid (h'.keep hbel)
  have HB := Lib.hid hbel
  clear h h' hbel
  by_cases hk : K.length ≤ 16
  · have hkI : ¬ (16 : Int) < (K.length : Int) := by omega
    have HF : Hid (decide (FormP B K) = decide (OfP (B.length : Int) K)) := by
      show _ = _
      by_cases ho : OfP (B.length : Int) K
      · rw [decide_eq_true ho, decide_eq_true (show FormP B K from ⟨hk, ho⟩)]
      · rw [decide_eq_false ho, decide_eq_false (fun hf : FormP B K => ho hf.2)]
    have HW : Hid (webL B K = ofL (B.length : Int) K) := by
      show _ = _
      unfold webL
      by_cases ho : OfP (B.length : Int) K
      · rw [if_pos (show FormP B K from ⟨hk, ho⟩)]
      · rw [if_neg (fun hf : FormP B K => ho hf.2), ofL, if_neg ho]
    clear hk
    go_enter Try.func46, Try.ntmps46
    go_wp2_with fail
    refine (implGraphOf_any _ _ _ _ HG.out).mono ?_
    rintro e w1 ⟨m1, a1, c1, rfl, ho1, hb1⟩
    have z1 : w.heap.size + 1 + 1 ≤ w1.heap.size := by have := hb1.size; simpa [size_alloc1] using this
    have k1 : w1.cell? ⟨w.heap.size + 1, 0, none⟩ = some (.slice none 0 0) := by rw [hb1.cell (by simp)]; go_simp
    have f1 : w1.frozen? ⟨w.heap.size + 1, 0, none⟩ = false := by rw [hb1.frozen (by simp)]; go_simp
    have HO : Hid (OwnGrid 2 33 (w1.setCell ⟨w.heap.size + 1, 0, none⟩ (.slice a1 m1 c1)) w.heap.size (.slice a1 m1 c1) (webL B K)) := by
      rw [HW.out]; exact (ho1.setBelow (by simp) _).mono (by simp; omega)
    have HB1 : Hid (Below w.heap.size w (w1.setCell ⟨w.heap.size + 1, 0, none⟩ (.slice a1 m1 c1))) := (HB.out.trans (hb1.mono HB.out.size)).setCell (by simp) _
    have q0 : (w1.setCell ⟨w.heap.size + 1, 0, none⟩ (.slice a1 m1 c1)).cell? ⟨w.heap.size + 1, 0, none⟩ = some (.slice a1 m1 c1) := cell_set_same _ k1
    have Q0 := Lib.hid q0
    clear ho1 hb1 q0
    go_wp2
    refine bodyPost_ret (v := .tuple #[.agg #[.slice a1 m1 c1], .bool (decide (OfP (B.length : Int) K))]) (by simp [results, Try.results46, go_sem, Q0.out]) rfl ?_
    rw [← HF.out]
    exact ⟨_, _, _, rfl, HO.out, HB1.out⟩
  · have hkI : (16 : Int) < (K.length : Int) := by omega
    have HF : Hid (decide (FormP B K) = false) := decide_eq_false (fun hf => hk hf.1)
    have HW : Hid (webL B K = []) := if_neg (fun hf => hk hf.1)
    clear hk
    go_enter Try.func46, Try.ntmps46
    go_wp2
    have q0 : ((w.alloc (.cells #[.slice a B.length c, .slice a' K.length c'] 27)).alloc (.cells #[.slice none 0 0] 37)).cell? ⟨w.heap.size + 1, 0, none⟩ = some (.slice none 0 0) := by
      have h1 := (BoxAt.new (w.alloc (.cells #[.slice a B.length c, .slice a' K.length c'] 27)) (.slice none 0 0) 37).1
      rw [size_alloc1] at h1
      exact h1
    refine bodyPost_ret (v := .tuple #[.agg #[.slice none 0 0], .bool false]) (by simp [results, Try.results46, go_sem, q0]) rfl ?_
    refine ⟨0, none, 0, by rw [HF.out], ?_, HB.out⟩
    rw [HW.out]
    exact own_nil _ _

end Go.Proofs.Ytohjfcfcopbmoaa
