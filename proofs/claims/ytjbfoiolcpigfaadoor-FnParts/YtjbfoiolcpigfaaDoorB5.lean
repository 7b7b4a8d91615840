/- Walks: the net of a graph. -/
import Derived.Test.YtjbfoiolcpigfaaDoorB4
namespace Go.Proofs.YtjbfoiolcpigfaaDoor
open Go.RowKit

theorem Tryd.sizeNet : (Tryd.prog.info? 74).map (·.size) = some 17 := by kernel_rfl

theorem netRet {L : List (List Int)} {w w' : World} {act : Act} (n : Nat) (M : Nat → Nat) (ok : Bool) (g : Nat) (hp : act.tmps.getD 2 undef = .pointer (some ⟨g, 0, none⟩)) (ho : act.tmps.getD 3 undef = .bool ok) (hg : NetBlk 74 w' g n M)
    (hd : act.defers = []) (hpost : GaveNet w L (.returned (.tuple #[.agg (netArr n M), .bool ok])) w') : bodyPost Tryd.prog Tryd.f68 (GaveNet w L) Exit.ret act w' := by
  refine bodyPost_ret (v := .tuple #[.agg (netArr n M), .bool ok]) ?_ hd hpost
  rw [results_net Tryd.results68 act.tmps w' g n M _ hp hg Tryd.sizeNet Tryd.underlying74 rfl, ho]

set_option maxHeartbeats 1000000 in
set_option maxRecDepth 100000 in
theorem netOf_any (v : Value) (L : List (List Int)) (w : World) (h : GridAt w v L) :
    Calls Tryd.prog 68 #[.agg #[v]] w (GaveNet w L) := by
  have hl := h.len
  unfold maxLen at hl
  by_cases hsz : inB L.length 1 16 = true
  · have hsz' : (1 : Int) ≤ L.length ∧ (L.length : Int) ≤ 16 := by simpa [inB] using hsz
    obtain ⟨hz1, hz2⟩ := hsz'
    have HS := Lib.hid hsz
    clear hsz
    obtain ⟨b, o, c0, A, C, rfl, l1, l2, hc⟩ := h.pos (by omega)
    have HC := Lib.hid hc
    clear hc h
    have hg0 : NetBlk 74 (((w.alloc (.cells #[.slice (some ⟨b, o, none⟩) L.length c0] 29)).alloc (.cells (netArr 0 (fun _ => 0)) 74)).alloc (.cells (netArr 0 (fun _ => 0)) 74)) (w.heap.size + 1 + 1) 0 (fun _ => 0) := by
      have := heap_alloc_new ((w.alloc (.cells #[.slice (some ⟨b, o, none⟩) L.length c0] 29)).alloc (.cells (netArr 0 (fun _ => 0)) 74)) (.cells (netArr 0 (fun _ => 0)) 74)
      rwa [size_alloc1, size_alloc1] at this
    have hg1 : NetBlk 74 (((w.alloc (.cells #[.slice (some ⟨b, o, none⟩) L.length c0] 29)).alloc (.cells (netArr 0 (fun _ => 0)) 74)).alloc (.cells (netArr 0 (fun _ => 0)) 74)) (w.heap.size + 1) 0 (fun _ => 0) := by
      have := heap_alloc2_old (w.alloc (.cells #[.slice (some ⟨b, o, none⟩) L.length c0] 29)) (.cells (netArr 0 (fun _ => 0)) 74) (.cells (netArr 0 (fun _ => 0)) 74)
      rwa [size_alloc1] at this
    have hb0 : Below w.heap.size w (((w.alloc (.cells #[.slice (some ⟨b, o, none⟩) L.length c0] 29)).alloc (.cells (netArr 0 (fun _ => 0)) 74)).alloc (.cells (netArr 0 (fun _ => 0)) 74)) :=
      (((Below.refl _ _).alloc (Nat.le_refl _) _).alloc (by rw [size_alloc1]; omega) _).alloc (by rw [size_alloc1, size_alloc1]; omega) _
    have HG1 := Lib.hid hg1
    have HB0 := Lib.hid hb0
    clear hg1 hb0
    go_enter Tryd.func68, Tryd.ntmps68
    go_wp2_with fail
    refine (sizeOk_any _ _).mono ?_
    rintro e w' ⟨rfl, rfl⟩
    rw [HS.out]
    go_wp2_with (refine wpList_store_net rfl 74 (.tmp 5) (.tmp 18) rfl (w.heap.size + 1 + 1) L.length (fun _ => 0) rfl rfl Tryd.sizeNet 0 (fun _ => 0) hg0 ?_; intro w3 hp; have kb : w3.cell? ⟨w.heap.size, 0, none⟩ = some (.slice (some ⟨b, o, none⟩) L.length c0) := (hp.cell (by simp; omega)).trans (by go_simp); have HPU : Hid (NetBlk 74 w3 (w.heap.size + 1 + 1) L.length (fun _ => 0) ∧ NetBlk 74 w3 (w.heap.size + 1) 0 (fun _ => 0) ∧ Below w.heap.size w w3) := ⟨hp.net, HG1.out.keepB hp.below (by omega), HB0.out.trans (hp.below.mono (by omega))⟩; clear hp hg0 HG1 HB0)
    go_loopw [22] (fun i wr => ∃ k : Nat, k ≤ L.length ∧ i = .int .i64 k ∧ (∀ j, j < k → SetP (nthR L j) L.length) ∧ NetBlk 74 wr (w.heap.size + 1 + 1) L.length (fun i => if i < k then rowM L i else 0) ∧ NetBlk 74 wr (w.heap.size + 1) 0 (fun _ => 0) ∧ Below w.heap.size w wr) (fun i _ => L.length - (intOf i).toNat)
    case atStart => exact ⟨0, Nat.zero_le _, rfl, (fun j hj => absurd hj (by omega)), HPU.out.1.congr rfl (fun i _ => by simp), HPU.out.2.1, HPU.out.2.2⟩
    case round =>
      obtain ⟨k, hk, rfl, he, hn, hz, hb⟩ := hrel
      have HE := Lib.hid he
      have HB := Lib.hid hb
      have HN := Lib.hid hn
      have HZ := Lib.hid hz
      clear he hn hz HPU kb
      by_cases hlt : k < L.length
      · have hck := cell_keep hb (HC.out k hlt).1
        have hrk := (HC.out k hlt).2.keep hb
        have hk16 : (k : Int) < 16 := by omega
        clear hb
        go_wp2_with fail
        refine (maskOf_any _ _ _ _ hrk (by omega) hz2).mono ?_
        rintro e w4 ⟨rfl, hb4⟩
        have hn4 := HN.out.keep hb4
        have hz4 := HZ.out.keep hb4
        have HB4 : Hid (Below w.heap.size w w4) := HB.out.trans (hb4.mono HB.out.size)
        clear hb4 hrk hck
        by_cases hS : SetP (nthR L k) L.length
        · have hcc := hn4.at.2 k (by omega)
          have hcf := hn4.frozen (1 + k)
          have HN4 := Lib.hid hn4
          have HZ4 := Lib.hid hz4
          have HSS := Lib.hid hS
          rw [if_pos hS, decide_eq_true hS]
          clear hS hn4 hz4
          go_wp2
          go_roundw
          case rel =>
            refine ⟨k + 1, by omega, by go_num, (fun j hj => by rcases Nat.lt_succ_iff_lt_or_eq.1 hj with h | h; exact HE.out j h; subst h; exact HSS.out), (HN4.out.set k _ (by omega)).congr rfl (fun i hi => ?_), HZ4.out.setOther (by simp) _, HB4.out.setCell (by simp; omega) _⟩
            by_cases e : i = k
            · subst e; simp [rowM, hlt]
            · simp only [e, if_false]
              by_cases h1 : i < k
              · simp [h1, Nat.lt_succ_of_lt h1]
              · simp [h1, show ¬ i < k + 1 from by omega]
          case measure => simp [intOf]; omega
        · have hng : ¬ GraphP L := fun hg => hS ((hg.2.1 k hlt).1)
          have HP : Hid (∀ w', Below w.heap.size w w' → GaveNet w L (.returned (.tuple #[.agg (netArr 0 (fun _ => 0)), .bool false])) w') := fun w' hw' => ⟨by rw [netArr_no hng, decide_eq_false hng], hw'⟩
          rw [if_neg hS, decide_eq_false hS]
          have HN4 := Lib.hid hn4
          clear hS hng hn4
          go_wp2_with (refine wpList_store_net rfl 74 (.tmp 2) (.tmp 35) rfl (w.heap.size + 1) 0 (fun _ => 0) rfl rfl Tryd.sizeNet 0 (fun _ => 0) hz4 ?_; intro w5 hp)
          exact netRet 0 (fun _ => 0) false _ rfl rfl hp.net rfl (HP.out _ (HB4.out.trans (hp.below.mono (by omega))))
      · obtain rfl : k = L.length := by omega
        have hn5 : NetBlk 74 wr (w.heap.size + 1 + 1) L.length (rowM L) := HN.out.congr rfl (fun i hi => by by_cases h1 : i < L.length; simp [h1]; simp [h1, rowM])
        have hiff := simple_iff (L := L) ⟨by omega, by omega⟩ HE.out
        have hml : ∀ i, i < L.length → rowM L i < 65536 := fun i _ => rowM_lt (by omega) HE.out i
        go_wp2_with fail
        refine (simple_any _ _ _ _ hn5.at (by omega) hml).mono ?_
        rintro e w6 ⟨rfl, hd6⟩
        have hn6 := hn5.drawn hd6
        have hz6 := HZ.out.drawn hd6
        have HB6 : Hid (Below w.heap.size w w6) := HB.out.trans (hd6.below _)
        clear hn5 hd6 hml hb
        by_cases hG : GraphP L
        · have hsp := hiff.2 hG
          have HP : Hid (∀ w', Below w.heap.size w w' → GaveNet w L (.returned (.tuple #[.agg (netArr L.length (rowM L)), .bool true])) w') := fun w' hw' => ⟨by rw [netArr_yes hG, decide_eq_true hG], hw'⟩
          rw [decide_eq_true hsp]
          clear hG hsp hiff
          go_wp2_with (first | (refine wpList_load_net rfl 74 (.tmp 5) rfl (w.heap.size + 1 + 1) L.length (rowM L) rfl Tryd.sizeNet _ Tryd.underlying74 rfl hn6 ?_) | (refine wpList_store_net rfl 74 (.tmp 2) (.tmp 44) rfl (w.heap.size + 1) L.length (rowM L) rfl rfl Tryd.sizeNet 0 (fun _ => 0) hz6 ?_; intro w5 hp))
          exact netRet L.length (rowM L) true _ rfl rfl hp.net rfl (HP.out _ (HB6.out.trans (hp.below.mono (by omega))))
        · have hsp : ¬ SimpleP L.length (rowM L) := fun h1 => hG (hiff.1 h1)
          have HP : Hid (∀ w', Below w.heap.size w w' → GaveNet w L (.returned (.tuple #[.agg (netArr 0 (fun _ => 0)), .bool false])) w') := fun w' hw' => ⟨by rw [netArr_no hG, decide_eq_false hG], hw'⟩
          rw [decide_eq_false hsp]
          clear hG hsp hiff hn6
          go_wp2_with (refine wpList_store_net rfl 74 (.tmp 2) (.tmp 43) rfl (w.heap.size + 1) 0 (fun _ => 0) rfl rfl Tryd.sizeNet 0 (fun _ => 0) hz6 ?_; intro w5 hp)
          exact netRet 0 (fun _ => 0) false _ rfl rfl hp.net rfl (HP.out _ (HB6.out.trans (hp.below.mono (by omega))))
  · have hsz' : inB L.length 1 16 = false := by simpa using hsz
    have hng : ¬ GraphP L := fun hg => by have := hg.1; simp [inB] at hsz'; omega
    have HP : Hid (∀ w', Below w.heap.size w w' → GaveNet w L (.returned (.tuple #[.agg (netArr 0 (fun _ => 0)), .bool false])) w') := fun w' hw' => ⟨by rw [netArr_no hng, decide_eq_false hng], hw'⟩
    have HS := Lib.hid hsz'
    clear hsz hsz' hng
    obtain ⟨a0, c0, rfl⟩ := h.slice
    have hg1 : NetBlk 74 ((w.alloc (.cells #[.slice a0 L.length c0] 29)).alloc (.cells (netArr 0 (fun _ => 0)) 74)) (w.heap.size + 1) 0 (fun _ => 0) := by
      have := heap_alloc_new (w.alloc (.cells #[.slice a0 L.length c0] 29)) (.cells (netArr 0 (fun _ => 0)) 74)
      rwa [size_alloc1] at this
    have hb0 : Below w.heap.size w ((w.alloc (.cells #[.slice a0 L.length c0] 29)).alloc (.cells (netArr 0 (fun _ => 0)) 74)) :=
      ((Below.refl _ _).alloc (Nat.le_refl _) _).alloc (by rw [size_alloc1]; omega) _
    have HB0 := Lib.hid hb0
    clear hb0 h
    go_enter Tryd.func68, Tryd.ntmps68
    go_wp2_with fail
    refine (sizeOk_any _ _).mono ?_
    rintro e w' ⟨rfl, rfl⟩
    rw [HS.out]
    go_wp2_with (refine wpList_store_net rfl 74 (.tmp 2) (.tmp 16) rfl (w.heap.size + 1) 0 (fun _ => 0) rfl rfl Tryd.sizeNet 0 (fun _ => 0) hg1 ?_; intro w5 hp)
    exact netRet 0 (fun _ => 0) false _ rfl rfl hp.net rfl (HP.out _ (HB0.out.trans (hp.below.mono (by omega))))

end Go.Proofs.YtjbfoiolcpigfaaDoor
