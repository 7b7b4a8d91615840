/- The texts P5, P6, joined. -/
import Derived.Test.YtjbfoiolcpigfaaDoorQP2

/- Walks: two graphs joined. -/
namespace Go.Proofs.YtjbfoiolcpigfaaDoor
open Go.RowKit

/-- Who is near whom in two graphs beside each other. -/
def bsA (L M : List (List Int)) (i j : Nat) : Bool := if i < L.length then adjB L i j else (decide (L.length ≤ j) && adjB M (i - L.length) (j - L.length))
theorem bsA_range {L M : List (List Int)} (h1 : GraphP L) (h2 : GraphP M) {i j : Nat} (h : bsA L M i j = true) : i < L.length + M.length ∧ j < L.length + M.length := by
  unfold bsA at h
  by_cases hi : i < L.length
  · rw [if_pos hi] at h
    have := (adjB_range h1 h).2
    omega
  · rw [if_neg hi, Bool.and_eq_true, decide_eq_true_iff] at h
    have := adjB_range h2 h.2
    omega
theorem bsA_sym {L M : List (List Int)} (h1 : GraphP L) (h2 : GraphP M) (i j : Nat) : bsA L M i j = bsA L M j i := by
  have key : ∀ i j, bsA L M i j = true → bsA L M j i = true := by
    intro i j h
    unfold bsA at h ⊢
    by_cases hi : i < L.length
    · rw [if_pos hi] at h
      have := (adjB_range h1 h).2
      rw [if_pos this, adjB_sym h1]; exact h
    · rw [if_neg hi, Bool.and_eq_true, decide_eq_true_iff] at h
      rw [if_neg (by omega), Bool.and_eq_true, decide_eq_true_iff, adjB_sym h2]
      exact ⟨by omega, h.2⟩
  rw [Bool.eq_iff_iff]
  exact ⟨key i j, key j i⟩
theorem bsA_self {L M : List (List Int)} (h1 : GraphP L) (h2 : GraphP M) (i : Nat) : bsA L M i i = false := by
  unfold bsA
  split
  · exact adjB_self h1 i
  · rw [adjB_self h2, Bool.and_false]
theorem bsR_adj {L M : List (List Int)} (h1 : GraphP L) (h2 : GraphP M) (hs : L.length + M.length ≤ 16) : bsR L M M.length = adjL (L.length + M.length) (bsA L M) := by
  apply nthR_ext
  · rw [bsR_len (Nat.le_refl _), adjL_len]
  · intro i hi
    rw [bsR_len (Nat.le_refl _)] at hi
    rw [adjL_nth _ hi]
    have hz1 := h1.1
    have hz2 := h2.1
    by_cases h : i < L.length
    · have e1 : nthR (bsR L M M.length) i = nthR L i := by
        unfold bsR nthR
        rw [List.getD_eq_getElem?_getD, List.getD_eq_getElem?_getD, List.getElem?_append_left h]
      rw [e1, ← row_list h1 h, rowM_pm h1]
      congr 1
      refine pm_congr (fun j _ => ?_)
      unfold bsA
      rw [if_pos h]
    · have hi2 : i - L.length < M.length := by omega
      have e1 : nthR (bsR L M M.length) i = shR L.length (nthR M (i - L.length)) := by
        unfold bsR nthR
        rw [List.take_length, List.getD_eq_getElem?_getD, List.getElem?_append_right (by omega), List.getElem?_map, List.getD_eq_getElem?_getD, List.getElem?_eq_getElem hi2]
        rfl
      rw [e1]
      have hs2 := (h2.2.1 _ hi2).1
      refine sets_eq (SetP.mk ?_ ?_) (listM_set _) (fun z => ?_)
      · unfold shR
        rw [List.pairwise_map]
        exact List.Pairwise.imp (fun h => by omega) hs2.pairwise
      · intro z hz
        obtain ⟨y, hy, rfl⟩ := List.mem_map.1 hz
        have := hs2.bounds y hy
        omega
      · rw [listM_mem]
        constructor
        · intro hz
          obtain ⟨y, hy, rfl⟩ := List.mem_map.1 hz
          have hb := hs2.bounds y hy
          obtain ⟨q, rfl⟩ : ∃ q : Nat, y = (q : Int) := ⟨y.toNat, by omega⟩
          refine ⟨q + L.length, by omega, ?_, by omega⟩
          rw [pm_bit]
          unfold bsA
          rw [if_neg h, show q + L.length - L.length = q from by omega, ← adjB_has h2 hi2 (by omega), (hasB_mem _ _).2 hy]
          simp; omega
        · rintro ⟨q, hq, hb, rfl⟩
          rw [pm_bit, Bool.and_eq_true] at hb
          have hb2 := hb.2
          unfold bsA at hb2
          rw [if_neg h, Bool.and_eq_true, decide_eq_true_iff, ← adjB_has h2 hi2 (by omega), hasB_mem] at hb2
          refine List.mem_map.2 ⟨_, hb2.2, ?_⟩
          omega
theorem bs_graph {L M : List (List Int)} (h1 : GraphP L) (h2 : GraphP M) (hs : L.length + M.length ≤ 16) : GraphP (adjL (L.length + M.length) (bsA L M)) :=
  adjL_graph ⟨by have := h1.1; omega, hs⟩ (fun i j h => (bsA_range h1 h2 h).2) (bsA_sym h1 h2) (bsA_self h1 h2)

/-- Which pairs across have been joined: all of those below u, and of u those below v. -/
def acB (n N u v p q : Nat) : Bool := decide (p < n ∧ n ≤ q ∧ q < N ∧ (p < u ∨ (p = u ∧ q < v)))
def joA (L M : List (List Int)) (u v i j : Nat) : Bool := bsA L M i j || acB L.length (L.length + M.length) u v i j || acB L.length (L.length + M.length) u v j i
theorem acB_step {n N u v p q : Nat} (hu : u < n) (hv : n ≤ v) (hN : v < N) : acB n N u (v + 1) p q = (acB n N u v p q || (p == u && q == v)) := by
  unfold acB
  rw [Bool.eq_iff_iff, Bool.or_eq_true, decide_eq_true_iff, decide_eq_true_iff, Bool.and_eq_true, beq_iff_eq, beq_iff_eq]
  omega
theorem joA_link {L M : List (List Int)} {u v : Nat} (hu : u < L.length) (hv : L.length ≤ v) (hN : v < L.length + M.length) (i j : Nat) : joA L M u (v + 1) i j = linkA (joA L M u v) u v i j := by
  unfold linkA joA
  rw [acB_step hu hv hN, acB_step hu hv hN]
  cases bsA L M i j <;> cases acB L.length (L.length + M.length) u v i j <;> cases acB L.length (L.length + M.length) u v j i <;> cases (i == u) <;> cases (j == v) <;> cases (i == v) <;> cases (j == u) <;> rfl
theorem acB_next (n N u p q : Nat) : acB n N u N p q = acB n N (u + 1) n p q := by
  unfold acB
  rw [Bool.eq_iff_iff, decide_eq_true_iff, decide_eq_true_iff]
  omega
theorem joA_next (L M : List (List Int)) (u i j : Nat) : joA L M u (L.length + M.length) i j = joA L M (u + 1) L.length i j := by
  unfold joA
  rw [acB_next, acB_next]
theorem joA_zero (L M : List (List Int)) (i j : Nat) : joA L M 0 L.length i j = bsA L M i j := by
  unfold joA acB
  rw [decide_eq_false (by omega), decide_eq_false (by omega), Bool.or_false, Bool.or_false]
/-- The answer. -/
def joL (L M : List (List Int)) : List (List Int) := if bsB L M = true then adjL (L.length + M.length) (joA L M L.length L.length) else []
theorem joL_no {L M : List (List Int)} (h : bsB L M = false) : joL L M = [] := by rw [joL, h]; rfl
theorem joL_small (L M : List (List Int)) : Small (joL L M) := by
  unfold joL
  split
  · rename_i h
    exact adjL_small _ _ (bsB_yes h).2.2
  · exact ⟨by simp, fun i hi => absurd hi (by simp)⟩

theorem WorkT.linked {w0 : World} {v1 v2 : Value} {bo B g N cg : Nat} {L L' : List (List Int)} {w w' : World} (h : WorkT w0 v1 v2 bo B g N cg L w) (hbo : w0.heap.size + 1 + 1 < bo) (ho : OwnGrid 2 36 w' B (.slice (some ⟨g, 0, none⟩) N cg) L') (hb : Below B w w') (ht : ∀ k, k < w.heap.size → k ≠ g → w'.heap[k]? = w.heap[k]?) :
    BoxT 29 w' bo (.slice (some ⟨g, 0, none⟩) N cg) ∧ WorkT w0 v1 v2 bo B g N cg L' (w'.setCell ⟨bo, 0, none⟩ (.slice (some ⟨g, 0, none⟩) N cg)) := by
  have hbt : BoxT 29 w' bo (.slice (some ⟨g, 0, none⟩) N cg) := by
    unfold BoxT
    rw [ht bo h.box.lt h.ne]
    exact h.box
  exact ⟨hbt, (h.three.keepB hb h.low).setOther hbo _, hbt.set _, ho.setType hbt (by decide) (by decide) 0 _, h.low⟩

end Go.Proofs.YtjbfoiolcpigfaaDoor

/- Walks: two graphs joined: the program's. -/
namespace Go.Proofs.YtjbfoiolcpigfaaDoor
open Go.RowKit

set_option maxHeartbeats 3200000 in
set_option maxRecDepth 100000 in
theorem implJoinedGraph_any (v1 v2 : Value) (L M : List (List Int)) (w : World) (h1 : GridAt w v1 L) (h2 : GridAt w v2 M) : Calls Tryd.prog 19 #[.agg #[v1], .agg #[v2]] w (GaveGB w (joL L M) (bsB L M)) := by
  obtain ⟨a1, c1, rfl⟩ := h1.slice
  obtain ⟨a2, c2, rfl⟩ := h2.slice
  have T0 := Lib.hid (Three.start w (.slice a1 L.length c1) (.slice a2 M.length c2))
  have HK1 : Hid (∀ w', Below w.heap.size w w' → GridAt w' (.slice a1 L.length c1) L) := fun w' hb => h1.keep hb
  have HK2 : Hid (∀ w', Below w.heap.size w w' → GridAt w' (.slice a2 M.length c2) M) := fun w' hb => h2.keep hb
  clear h1 h2
  go_enter Tryd.func19, Tryd.ntmps19
  go_wp2_with fail
  refine (implBeside_any _ _ L M _ (HK1.out _ T0.out.bel) (HK2.out _ T0.out.bel)).mono ?_
  rintro e w1 ⟨n1, ag, cg, rfl, ho1, hb1⟩
  have T1 := Lib.hid (T0.out.keep hb1)
  have hbel : Below w1.heap.size w1 (w1.alloc (.cells #[.slice ag n1 cg] 29)) := (Below.refl _ _).alloc (Nat.le_refl _) _
  have T2 := Lib.hid (T1.out.keep hbel)
  by_cases hB : bsB L M = true
  · have HI := Lib.hid hB
    obtain ⟨hG1, hG2, hs⟩ := bsB_yes hB
    have hzL := hG1.1
    have hzM := hG2.1
    have hGB := bs_graph hG1 hG2 hs
    rw [bsL, if_pos hB, bsR_adj hG1 hG2 hs] at ho1
    rw [hB]
    have HGR := Lib.hid (ho1.grid.keep hbel)
    have HGB := Lib.hid hGB
    have HBL : Hid ((adjL (L.length + M.length) (bsA L M)).length = L.length + M.length) := adjL_len _ _
    have HRM : Hid (∀ i, rowM (adjL (L.length + M.length) (bsA L M)) i = pm (joA L M 0 L.length i)) := fun i => by
      rw [rowM_pm hGB]
      refine pm_congr (fun j hj => ?_)
      rw [joA_zero]
      by_cases hi : i < L.length + M.length
      · exact adjB_adjL hGB hi hj
      · have e1 : adjB (adjL (L.length + M.length) (bsA L M)) i j = false := by
          cases hb : adjB (adjL (L.length + M.length) (bsA L M)) i j with
          | false => rfl
          | true => exact absurd (adjB_range hGB hb).1 (by rw [adjL_len]; exact hi)
        have e2 : bsA L M i j = false := by
          cases hb : bsA L M i j with
          | false => rfl
          | true => exact absurd (bsA_range hG1 hG2 hb).1 hi
        rw [e1, e2]
    clear hB hG1 hG2 hGB ho1 hb1 hbel
    go_wp2_with fail
    refine (netOf_any _ (adjL (L.length + M.length) (bsA L M)) _ HGR.out).mono ?_
    rintro e w3 ⟨rfl, hb3⟩
    have T3 := Lib.hid (T2.out.keep hb3)
    have hnb := netBlk_new w3 0 (fun _ => 0)
    rw [decide_eq_true HGB.out, netArr_yes HGB.out, HBL.out]
    have k1 := T3.out.one.1
    have hbo : w.heap.size + 1 + 1 < w3.heap.size := T3.out.lt
    clear hb3
    go_wp2_with (first | (refine wpList_store_net rfl 74 (.tmp 8) (.tmp 25) rfl w3.heap.size (L.length + M.length) (rowM (adjL (L.length + M.length) (bsA L M))) rfl rfl Tryd.sizeNet 0 (fun _ => 0) hnb ?_; intro w4 hp; have HN4 : Hid (NetBlk 74 w4 w3.heap.size (L.length + M.length) (fun i => pm (joA L M 0 L.length i))) := hp.net.congr rfl (fun i _ => HRM.out i); have T4 := Lib.hid (T3.out.put hp); have k14 := T4.out.one.1; clear hp))
    clear k14 k1 hnb
    go_loopw [31] (fun i wr => ∃ k : Nat, k ≤ L.length ∧ i = .int .i64 k ∧ NetBlk 74 wr w3.heap.size (L.length + M.length) (fun i => pm (joA L M k L.length i)) ∧ Three w (.slice a1 L.length c1) (.slice a2 M.length c2) wr) (fun i _ => L.length - (intOf i).toNat)
    case atStart => exact ⟨0, Nat.zero_le _, rfl, HN4.out, T4.out⟩
    case round =>
      obtain ⟨k, hk, rfl, hn, ht⟩ := hrel
      have HN := Lib.hid hn
      have HT := Lib.hid ht
      clear hn ht
      by_cases hlt : k < L.length
      · go_wp2_with fail
        go_loopw [12] (fun i wr => ∃ q : Nat, L.length ≤ q ∧ q ≤ L.length + M.length ∧ i = .int .i64 q ∧ NetBlk 74 wr w3.heap.size (L.length + M.length) (fun i => pm (joA L M k q i)) ∧ Three w (.slice a1 L.length c1) (.slice a2 M.length c2) wr) (fun i _ => L.length + M.length - (intOf i).toNat)
        case atStart => exact ⟨L.length, Nat.le_refl _, by omega, rfl, HN.out, HT.out⟩
        case round =>
          rename World => w5
          obtain ⟨q, hq1, hq2, rfl, hn, ht⟩ := hrel
          have HN5 := Lib.hid hn
          have HT5 := Lib.hid ht
          have kn5 := hn.at.1
          clear hn ht
          by_cases hql : q < L.length + M.length
          · go_wp2_with fail
            refine (link_any w3.heap.size (L.length + M.length) k q _ _ HN5.out (fun i => pm_lt _) (by omega) (by omega) (by omega)).mono ?_
            rintro e w6 ⟨rfl, hp6⟩
            have HN6 : Hid (NetBlk 74 w6 w3.heap.size (L.length + M.length) (fun i => pm (joA L M k (q + 1) i))) := hp6.net.congr rfl (fun i _ => by rw [linkM_pm _ (by omega) (by omega) (by omega)]; exact pm_congr (fun j _ => (joA_link hlt hq1 hql i j).symm))
            have T6 := Lib.hid (HT5.out.putG hp6 hbo)
            clear hp6 kn5
            go_wp2
            go_roundw
            case rel => exact ⟨q + 1, by omega, by omega, by go_num, HN6.out, T6.out⟩
            case measure => simp [intOf]; omega
          · obtain rfl : q = L.length + M.length := by omega
            go_wp2
            go_roundw
            case rel => exact ⟨k + 1, by omega, by go_num, HN5.out.congr rfl (fun i _ => pm_congr (fun j _ => joA_next L M k i j)), HT5.out⟩
            case measure => simp [intOf]; omega
      · obtain rfl : k = L.length := by omega
        go_wp2_with fail
        refine (graph_any w3.heap.size (L.length + M.length) _ _ HN.out (fun i => pm_lt _) (by omega) hs).mono ?_
        rintro e w7 ⟨n7, a7, c7, rfl, ho7, hb7⟩
        have T7 := Lib.hid (HT.out.keep hb7)
        have kr := T7.out.res.1
        have kf := T7.out.res.2
        have HO7 := Lib.hid ho7
        clear ho7 hb7
        go_wp2
        refine bodyPost_ret (v := .tuple #[.agg #[.slice a7 n7 c7], .bool true]) (by simp [results, Tryd.results19, go_sem, T7.out.q0]) rfl (T7.out.yes (B := wr.heap.size) ?_ HT.out.lt HI.out)
        rw [joL, if_pos HI.out]
        exact HO7.out
  · have hB' : bsB L M = false := by simpa using hB
    have HI := Lib.hid hB'
    have kr := T2.out.res.1
    have kf := T2.out.res.2
    rw [hB']
    clear hB hB' ho1 hb1 hbel
    go_wp2
    exact bodyPost_ret (v := .tuple #[.agg #[.slice none 0 0], .bool false]) (by simp [results, Tryd.results19, go_sem, T2.out.q0]) rfl (T2.out.no (joL_no HI.out) HI.out)

end Go.Proofs.YtjbfoiolcpigfaaDoor
