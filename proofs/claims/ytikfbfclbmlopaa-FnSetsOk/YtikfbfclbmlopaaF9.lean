/- Walks: the program's graph of a list of edges. -/
import Derived.Test.YtikfbfclbmlopaaF8
import Derived.Test.YtikfbfclbmlopaaB5
import Derived.Deep.RegionLaw
namespace Go.Proofs.Ytikfbfclbmlopaa
open Go.RowKit

/-- The masks of the first k edges. -/
def edgeM (E : List (List Int)) : Nat → Nat → Nat
  | 0, _ => 0
  | k + 1, i => linkM (edgeM E k) (nth (nthR E k) 0).toNat (nth (nthR E k) 1).toNat i
theorem edgeM_lt {E : List (List Int)} {n : Int} (hn : n ≤ 16) : ∀ k, (∀ j, j < k → EdgeP (nthR E j) n) → ∀ i, edgeM E k i < 65536
  | 0, _, _ => by simp [edgeM]
  | k + 1, h, i => by
    obtain ⟨_, h1, h2, h3⟩ := h k (by omega)
    exact linkM_lt (edgeM_lt hn k (fun j hj => h j (by omega))) (by omega) (by omega) i

/-- The numbers and edges that make a graph. -/
def OfP (n : Int) (E : List (List Int)) : Prop := inB n 1 16 = true ∧ E.length ≤ 120 ∧ ∀ k, k < E.length → EdgeP (nthR E k) n
instance (n : Int) (E : List (List Int)) : Decidable (OfP n E) := by unfold OfP; infer_instance
/-- Its rows. -/
def ofL (n : Int) (E : List (List Int)) : List (List Int) := if OfP n E then maskL n.toNat (edgeM E E.length) else []
/-- A call has handed back the graph of those edges, of its own make, and whether there is one. -/
def GaveOf (w : World) (n : Int) (E : List (List Int)) (e : Ending) (w' : World) : Prop :=
  ∃ m a c, e = .returned (.tuple #[.agg #[.slice a m c], .bool (decide (OfP n E))]) ∧ OwnGrid 2 34 w' w.heap.size (.slice a m c) (ofL n E) ∧ Below w.heap.size w w'
theorem GaveOf.no {w : World} {n : Int} {E : List (List Int)} (h : ¬ OfP n E) {w' : World} (hb : Below w.heap.size w w') : GaveOf w n E (.returned (.tuple #[.agg #[.slice none 0 0], .bool false])) w' :=
  ⟨0, none, 0, by rw [decide_eq_false h], by rw [ofL, if_neg h]; exact own_nil _ _, hb⟩

set_option maxHeartbeats 1600000 in
theorem implGraphOf_any (v : Value) (n : Int) (E : List (List Int)) (w : World) (h : GridAt w v E) : Calls Try.prog 24 #[.int .i64 n, v] w (GaveOf w n E) := by
  have hl := h.len
  unfold maxLen at hl
  obtain ⟨a, c, rfl⟩ := h.slice
  have b0 : BoxAt (w.alloc (.cells #[.slice none 0 0] 26)) w.heap.size (.slice none 0 0) := BoxAt.new _ _ _
  have hb0 : Below w.heap.size w (w.alloc (.cells #[.slice none 0 0] 26)) := (Below.refl _ _).alloc (Nat.le_refl _) _
  have hc0 := b0.1
  have hf0 := b0.2
  have HB0 := Lib.hid hb0
  have HBX0 := Lib.hid b0
  have H := Lib.hid h
  clear h b0 hb0
  by_cases hin : inB n 1 16 = true
  · have HI := Lib.hid hin
    by_cases hlen : E.length ≤ 120
    · obtain ⟨m, hm⟩ : ∃ m : Nat, (m : Int) = n := ⟨n.toNat, by have : 1 ≤ n ∧ n ≤ 16 := (by simpa [inB] using hin); omega⟩
      have hm1 : 1 ≤ m ∧ m ≤ 16 := by have : 1 ≤ n ∧ n ≤ 16 := (by simpa [inB] using hin); omega
      obtain ⟨hm1, hm2⟩ := hm1
      subst hm
      have hlen' : decide ((120 : Int) < (E.length : Int)) = false := by simp; omega
      clear hin
      have g0 : NetBlk 71 ((w.alloc (.cells #[.slice none 0 0] 26)).alloc (.cells (netArr 0 (fun _ => 0)) 71)) (w.heap.size + 1) 0 (fun _ => 0) := by
        have := heap_alloc_new (w.alloc (.cells #[.slice none 0 0] 26)) (.cells (netArr 0 (fun _ => 0)) 71)
        rwa [size_alloc1] at this
      have HB1 : Hid (Below w.heap.size w ((w.alloc (.cells #[.slice none 0 0] 26)).alloc (.cells (netArr 0 (fun _ => 0)) 71))) := HB0.out.alloc HB0.out.size _
      have HBX1 : Hid (BoxAt ((w.alloc (.cells #[.slice none 0 0] 26)).alloc (.cells (netArr 0 (fun _ => 0)) 71)) w.heap.size (.slice none 0 0)) := HBX0.out.keep ((Below.refl _ _).alloc (Nat.le_refl _) _)
      go_enter Try.func24, Try.ntmps24
      go_wp2_with fail
      refine (sizeOk_any _ _).mono ?_
      rintro e w' ⟨rfl, rfl⟩
      rw [HI.out]
      go_wp2_with (refine wpList_store_net rfl 71 (.tmp 6) (.tmp 19) rfl (w.heap.size + 1) m (fun _ => 0) rfl rfl Try.sizeNet 0 (fun _ => 0) g0 ?_; intro w3 hp; have HPU : Hid (NetBlk 71 w3 (w.heap.size + 1) m (fun _ => 0) ∧ BoxAt w3 w.heap.size (.slice none 0 0) ∧ Below w.heap.size w w3) := ⟨hp.net, HBX1.out.keepB hp.below (by omega), HB1.out.trans (hp.below.mono (by omega))⟩; clear hp g0)
      go_loopw [22] (fun i wr => ∃ k : Nat, k ≤ E.length ∧ i = .int .i64 k ∧ (∀ j, j < k → EdgeP (nthR E j) m) ∧ NetBlk 71 wr (w.heap.size + 1) m (edgeM E k) ∧ BoxAt wr w.heap.size (.slice none 0 0) ∧ Below w.heap.size w wr) (fun i _ => E.length - (intOf i).toNat)
      case atStart => exact ⟨0, Nat.zero_le _, rfl, (fun j hj => absurd hj (by omega)), HPU.out.1.congr rfl (fun i _ => rfl), HPU.out.2.1, HPU.out.2.2⟩
      case round =>
        obtain ⟨k, hk, rfl, he, hn, hbx, hb⟩ := hrel
        have HE := Lib.hid he
        have HB := Lib.hid hb
        have HN := Lib.hid hn
        have HBX := Lib.hid hbx
        clear he hn HPU
        by_cases hlt : k < E.length
        · obtain ⟨b, o, c0, A, C, e2, l1, l2, hc⟩ := H.out.pos (by omega)
          simp only [Value.slice.injEq, true_and] at e2
          obtain ⟨rfl, rfl⟩ := e2
          have hck := cell_keep hb (hc k hlt).1
          have hrk := (hc k hlt).2.keep hb
          have HRK := Lib.hid hrk
          clear hb hc hbx hrk
          go_wp2_with fail
          refine (edgeOk_any _ _ _ _ HRK.out).mono ?_
          rintro e w4 ⟨rfl, hd4⟩
          have HN4 := Lib.hid (HN.out.drawn hd4)
          have hbx4 := HBX.out.keep (hd4.below _)
          have HB4 : Hid (Below w.heap.size w w4) := HB.out.trans (hd4.below _)
          have HRK4 := Lib.hid (HRK.out.drawn hd4)
          clear hd4 hck
          by_cases hE : EdgeP (nthR E k) m
          · rw [decide_eq_true hE]
            obtain ⟨h2, x0, x1, x2⟩ := id hE
            obtain ⟨b2, o2, c2, e3, l3, l4, hc2⟩ := HRK4.out.pos (by omega)
            rw [e3, h2]
            obtain ⟨p, hp⟩ : ∃ p : Nat, nth (nthR E k) 0 = (p : Int) := ⟨(nth (nthR E k) 0).toNat, by omega⟩
            obtain ⟨q, hq⟩ : ∃ q : Nat, nth (nthR E k) 1 = (q : Int) := ⟨(nth (nthR E k) 1).toNat, by omega⟩
            have k0 : w4.cell? ⟨b2, o2, none⟩ = some (.int .i64 (p : Int)) := by rw [← hp]; exact hc2 0 (by omega)
            have k1 : w4.cell? ⟨b2, o2 + 1, none⟩ = some (.int .i64 (q : Int)) := by rw [← hq]; exact hc2 1 (by omega)
            have hpq : p < q ∧ q < 16 := by omega
            have hml := edgeM_lt (n := (m : Int)) (by omega) k HE.out
            have HML := Lib.hid hml
            have hed : linkM (edgeM E k) p q = edgeM E (k + 1) := by
              funext i
              show _ = linkM (edgeM E k) (nth (nthR E k) 0).toNat (nth (nthR E k) 1).toNat i
              rw [hp, hq, Int.toNat_natCast, Int.toNat_natCast]
            have HED := Lib.hid hed
            have HEK := Lib.hid hE
            have HBX4 := Lib.hid hbx4
            obtain ⟨hpq1, hpq2⟩ := hpq
            clear hE h2 x0 x1 x2 e3 l3 l4 hc2 hp hq hml hed hbx4
            go_wp2_with fail
            go_region_law (first | (go_simp; go_at_call 81; refine (link_any (w.heap.size + 1) m p q (edgeM E k) _ (HN4.out.keep (Below.refl _ _).drew) HML.out (by omega) hpq2 (by omega)).mono ?_; rintro e w6 ⟨rfl, hp6⟩; have hb6 : Below (w.heap.size + 1) w4 w6 := (Below.refl _ _).drew.trans hp6.below; have HB6 := Lib.hid hb6; have HN6 := Lib.hid hp6.net; clear hp6 hb6))
            all_goals (
              go_wp2
              go_roundw
              case rel => exact ⟨k + 1, by omega, by go_num, (fun j hj => by rcases Nat.lt_succ_iff_lt_or_eq.1 hj with h | h; exact HE.out j h; subst h; exact HEK.out), by rw [← HED.out]; exact HN6.out, HBX4.out.keepB HB6.out (by omega), HB4.out.trans (HB6.out.mono (by omega))⟩
              case measure => simp [intOf]; omega)
          · have hno : ¬ OfP (m : Int) E := fun h => hE (h.2.2 k hlt)
            rw [decide_eq_false hE]
            have hbc := hbx4.1
            have hbf := hbx4.2
            have HBX4 := Lib.hid hbx4
            clear hbx4
            go_wp2
            have q0 : (w4.setCell ⟨w.heap.size, 0, none⟩ (.slice none 0 0)).cell? ⟨w.heap.size, 0, none⟩ = some (.slice none 0 0) := cell_set_same _ HBX4.out.1
            refine bodyPost_ret (v := .tuple #[.agg #[.slice none 0 0], .bool false]) (by simp [results, Try.results24, go_sem, q0]) rfl (GaveOf.no hno (HB4.out.setCell (Nat.le_refl _) _))
        · obtain rfl : k = E.length := by omega
          have hof : OfP (m : Int) E := ⟨HI.out, hlen, HE.out⟩
          have hml := edgeM_lt (n := (m : Int)) (by omega) E.length HE.out
          clear hb hbx
          go_wp2_with fail
          refine (graph_any _ _ _ _ HN.out hml hm1 hm2).mono ?_
          rintro e w5 ⟨n5, a5, c5, rfl, ho5, hb5⟩
          have hbx5 := HBX.out.keep hb5
          have hbc := hbx5.1
          have hbf := hbx5.2
          have HBX5 := Lib.hid hbx5
          have HO5 := Lib.hid ho5
          have HB5 := Lib.hid hb5
          have hws : w.heap.size + 1 < wr.heap.size := HN.out.lt
          clear hbx5 ho5 hb5 hml
          go_wp2
          have q0 : (w5.setCell ⟨w.heap.size, 0, none⟩ (.slice a5 n5 c5)).cell? ⟨w.heap.size, 0, none⟩ = some (.slice a5 n5 c5) := cell_set_same _ HBX5.out.1
          refine bodyPost_ret (v := .tuple #[.agg #[.slice a5 n5 c5], .bool true]) (by simp [results, Try.results24, go_sem, q0]) rfl ⟨n5, a5, c5, by rw [decide_eq_true hof], ?_, (HB.out.trans (HB5.out.mono HB.out.size)).setCell (Nat.le_refl _) _⟩
          rw [ofL, if_pos hof]
          exact (HO5.out.setBelow (by simp; omega) _).mono HB.out.size
    · have hno : ¬ OfP n E := fun h => hlen h.2.1
      have hlen' : decide ((120 : Int) < (E.length : Int)) = true := by simp; omega
      clear hin
      go_enter Try.func24, Try.ntmps24
      go_wp2_with fail
      refine (sizeOk_any _ _).mono ?_
      rintro e w' ⟨rfl, rfl⟩
      rw [HI.out]
      go_wp2
      refine bodyPost_ret (v := .tuple #[.agg #[.slice none 0 0], .bool false]) (by simp [results, Try.results24, go_sem, HBX0.out.1]) rfl (GaveOf.no hno HB0.out)
  · have hin' : inB n 1 16 = false := by simpa using hin
    have hno : ¬ OfP n E := fun h => hin h.1
    have HI := Lib.hid hin'
    clear hin hin'
    go_enter Try.func24, Try.ntmps24
    go_wp2_with fail
    refine (sizeOk_any _ _).mono ?_
    rintro e w' ⟨rfl, rfl⟩
    rw [HI.out]
    go_wp2
    refine bodyPost_ret (v := .tuple #[.agg #[.slice none 0 0], .bool false]) (by simp [results, Try.results24, go_sem, HBX0.out.1]) rfl (GaveOf.no hno HB0.out)

end Go.Proofs.Ytikfbfclbmlopaa
