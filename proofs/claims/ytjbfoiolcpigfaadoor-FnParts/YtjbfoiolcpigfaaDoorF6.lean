/- Walks: the program's edge test; an edge put into a net. -/
import Derived.Test.YtjbfoiolcpigfaaDoorF5
namespace Go.Proofs.YtjbfoiolcpigfaaDoor
open Go.RowKit

/-- Two vertices of n, the lesser first. -/
def EdgeP (xs : List Int) (n : Int) : Prop := xs.length = 2 ∧ 0 ≤ nth xs 0 ∧ nth xs 0 < nth xs 1 ∧ nth xs 1 < n
instance (xs : List Int) (n : Int) : Decidable (EdgeP xs n) := by unfold EdgeP; infer_instance
theorem edge_set {xs : List Int} {n : Int} (h : xs.length = 2) : SetP xs n ↔ EdgeP xs n := by
  unfold EdgeP
  constructor
  · intro hs
    have h0 := hs 0 (by omega)
    have h1 := hs 1 (by omega)
    obtain ⟨a1, a2, _⟩ := h0
    obtain ⟨b1, b2, b3⟩ := h1
    have b4 := b3 (by omega)
    simp only [Nat.sub_self] at b4
    exact ⟨h, a1, b4, by omega⟩
  · rintro ⟨_, h1, h2, h3⟩ i hi
    match i, hi with
    | 0, _ => exact ⟨h1, by omega, fun h => absurd h (by omega)⟩
    | 1, _ => exact ⟨by omega, by omega, fun _ => h2⟩
    | (k + 2), hi => omega

/-- Masks with the edge a b put in. -/
def linkM (M : Nat → Nat) (a b : Nat) (i : Nat) : Nat := if i = b then M b ||| 2 ^ a else if i = a then M a ||| 2 ^ b else M i
theorem linkM_lt {M : Nat → Nat} {a b : Nat} (hM : ∀ i, M i < 65536) (ha : a < 16) (hb : b < 16) (i : Nat) : linkM M a b i < 65536 := by
  unfold linkM
  split
  · exact or_lt16 (hM _) ha
  · split
    · exact or_lt16 (hM _) hb
    · exact hM _

theorem NetPut.of {T : TypeId} {w : World} {g n : Nat} {M M' : Nat → Nat} {i j mi mj : Nat} {w1 w2 : World} (h : NetBlk T w g n M) (hi : i < 16) (hj : j < 16) (h1 : Drawn (w.setCell ⟨g, 1 + i, none⟩ (.int .u32 (mi : Int))) w1) (h2 : Drawn (w1.setCell ⟨g, 1 + j, none⟩ (.int .u32 (mj : Int))) w2)
    (hM : ∀ k, k < 16 → (if k = j then mj else if k = i then mi else M k) = M' k) : NetPut T w w2 g n M' := by
  obtain ⟨a, rfl⟩ := h1
  obtain ⟨b, rfl⟩ := h2
  refine ⟨rfl, rfl, rfl, ?_, ?_, ?_⟩
  · show (((w.setCell _ _).drewN a).setCell _ _).heap.size = _
    rw [size_setCell1]
    exact size_setCell1 _ _ _
  · have q1 : NetBlk T (w.setCell ⟨g, 1 + i, none⟩ (.int .u32 (mi : Int))) g n (fun k => if k = i then mi else M k) := h.set i mi hi
    have q2 : NetBlk T ((w.setCell ⟨g, 1 + i, none⟩ (.int .u32 (mi : Int))).drewN a) g n (fun k => if k = i then mi else M k) := q1
    have q3 := q2.set j mj hj
    exact NetBlk.congr (w := ((((w.setCell ⟨g, 1 + i, none⟩ (.int .u32 (mi : Int))).drewN a).setCell ⟨g, 1 + j, none⟩ (.int .u32 (mj : Int))).drewN b)) q3 rfl hM
  · intro k hk
    show ((((w.setCell ⟨g, 1 + i, none⟩ (.int .u32 (mi : Int))).drewN a).setCell ⟨g, 1 + j, none⟩ (.int .u32 (mj : Int)))).heap[k]? = _
    rw [heap_setCell_other _ _ _ _ hk]
    exact heap_setCell_other _ _ _ _ hk

set_option maxHeartbeats 800000 in
theorem link_any (g n a b : Nat) (M : Nat → Nat) (w : World) (h : NetBlk 74 w g n M) (hM : ∀ i, M i < 65536) (ha : a < 16) (hb : b < 16) (hab : a ≠ b) :
    Calls Tryd.prog 69 #[.pointer (some ⟨g, 0, none⟩), .int .i64 (a : Int), .int .i64 (b : Int)] w (fun e w' => e = .returned (.tuple #[]) ∧ NetPut 74 w w' g n (linkM M a b)) := by
  have H := Lib.hid h
  have HM := Lib.hid hM
  clear h hM
  have ha' : (a : Int) < 16 := by omega
  have hb' : (b : Int) < 16 := by omega
  go_enter Tryd.func69, Tryd.ntmps69
  go_wp2_with fail
  refine (add_any g (1 + a) (M a) b w (H.out.at.2 a ha) (H.out.frozen _) (HM.out _) (by omega) hb').mono ?_
  rintro e w1 ⟨rfl, hd1⟩
  have HD1 := Lib.hid hd1
  clear hd1
  have n1 : Hid (NetBlk 74 w1 g n (fun k => if k = a then M a ||| 2 ^ (b : Int).toNat else M k)) := ((H.out.set a (M a ||| 2 ^ (b : Int).toNat) ha).drawn HD1.out)
  go_wp2_with fail
  refine (add_any g (1 + b) (M b) a w1 (by have := n1.out.at.2 b hb; simpa [show ¬ b = a from fun h => hab h.symm] using this) (n1.out.frozen _) (HM.out _) (by omega) ha').mono ?_
  rintro e w2 ⟨rfl, hd2⟩
  have HD2 := Lib.hid hd2
  clear hd2
  go_wp2
  go_end0
  exact ⟨rfl, NetPut.of H.out ha hb HD1.out HD2.out (fun k _ => by unfold linkM; simp)⟩

end Go.Proofs.YtjbfoiolcpigfaaDoor
