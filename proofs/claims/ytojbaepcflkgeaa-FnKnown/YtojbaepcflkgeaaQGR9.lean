/- The texts GR9, GI4, joined. -/
import Derived.Test.YtojbaepcflkgeaaQGR1
import Derived.Test.YtojbaepcflkgeaaQGM3
import Derived.Test.YtojbaepcflkgeaaQU2
import Derived.Test.YtojbaepcflkgeaaQC6
import Derived.Deep.RegionLaw
import Derived.Deep.QuietTactic
import Derived.BigQuiet
import Derived.Test.YtojbaepcflkgeaaQGR5

/- Walks: the program's rule of Kneser graphs. -/
namespace Go.Proofs.Ytojbaepcflkgeaa
open Go.RowKit

/-- A row of masks of the call's own, in a box. -/
structure PrsAt (w0 : World) (bo : Nat) (ms : List Nat) (w : World) : Prop where
  box : ∃ s, BoxT 130 w bo s ∧ w.ownsRow w0.heap.size 62 1 s ms.length (ms.map (fun m : Nat => Value.int .u32 (m : Int)))
  bel : Below w0.heap.size w0 w
theorem box_apart {T T2 : TypeId} {w : World} {bo B n : Nat} {x u : Value} {ys : List Value} (h : BoxT T w bo x) (hu : w.ownsRow B T2 1 u n ys) (hT : T ≠ T2) : some bo ≠ u.ownBlock := by
  intro e2
  rcases hu.2 with ⟨e3, _⟩ | ⟨g', cap', cur', e3, _, hh', _⟩
  · rw [e3] at e2; simp [Value.ownBlock] at e2
  · rw [e3] at e2
    simp [Value.ownBlock] at e2
    subst e2
    have hh : w.heap[bo]? = some (.cells #[x] T (0, 0)) := h
    rw [hh'] at hh
    simp at hh
    exact hT hh.2.symm
theorem BoxT.grown {T T2 : TypeId} {w w' : World} {bo B n : Nat} {x u : Value} {ys : List Value} (h : BoxT T w bo x) (hu : w.ownsRow B T2 1 u n ys) (hT : T ≠ T2) (hg : w.grownBy w' u.ownBlock) : BoxT T w' bo x := by
  unfold BoxT
  rw [hg.block bo h.lt (box_apart h hu hT)]; exact h
theorem owns_set {T T2 : TypeId} {w : World} {bo B n : Nat} {x u y : Value} {ys : List Value} (h : BoxT T w bo x) (hu : w.ownsRow B T2 1 u n ys) (hT : T ≠ T2) : (w.setCell ⟨bo, 0, none⟩ y).ownsRow B T2 1 u n ys := by
  have hne := box_apart h hu hT
  refine ⟨hu.1, ?_⟩
  rcases hu.2 with hn | ⟨g, cap, cur, rfl, hb, hgg, rest⟩
  · exact .inl hn
  · refine .inr ⟨g, cap, cur, rfl, hb, ?_, rest⟩
    rw [heap_setCell_other _ _ _ _ (by simp [Value.ownBlock] at hne; simpa using fun e => hne e.symm)]
    exact hgg
theorem bits_pair {a b : Nat} (ha : a < 16) (hb : b < 16) : bits BinOp.or IntKind.u32 (IntKind.u32.wrap (2 ^ a)) (IntKind.u32.wrap (2 ^ b)) = ((2 ^ a ||| 2 ^ b : Nat) : Int) := by
  have w1 : ∀ x : Int, IntKind.u32.wrap x = x % 4294967296 := fun x => by simp [IntKind.wrap, IntKind.signed, IntKind.bits]
  rw [w1, w1]
  have h2 := pow_lt16 ha
  have h1 : ((2 : Int) ^ a % 4294967296) = ((2 ^ a : Nat) : Int) := by
    have : ((2 : Int) ^ a) = ((2 ^ a : Nat) : Int) := by simp
    rw [this]
    generalize 2 ^ a = q at h2
    omega
  rw [h1]
  exact bit_set _ _ h2 hb
theorem owns_form {w : World} {B : Nat} {e : TypeId} {v : Value} {n : Nat} {xs : List Value} (h : w.ownsRow B e 1 v (n + 1) xs) : ∃ g cap, v = .slice (some ⟨g, 0, none⟩) (n + 1) cap := by
  rcases h.2 with ⟨_, e0⟩ | ⟨g, cap, cur, e1, _⟩
  · exact absurd e0 (by omega)
  · exact ⟨g, cap, e1⟩
theorem litM (w : World) (x : Int) (T : TypeId) : ∀ j u, ([Value.int .u32 x] : List Value)[j]? = some u → (w.alloc (.cells #[.int .u32 x] T)).drew.cell? ((⟨w.heap.size, 0, none⟩ : Addr).add j) = some u := by
  intro j u h
  match j, h with
  | 0, h => simp at h; subst h; simp only [Addr.add]; exact cell_keep ((Below.refl _ _).drew) (by go_simp)
theorem oneM (x : Int) : ∀ u ∈ ([Value.int .u32 x] : List Value), u.oneCell' = true := by
  intro u hu
  simp at hu
  subst hu
  rfl
theorem prM_pair (a b : Nat) : prM [(a : Int), (b : Int)] = 2 ^ a ||| 2 ^ b := by
  have e0 : nth [(a : Int), (b : Int)] 0 = a := rfl
  have e1 : nth [(a : Int), (b : Int)] 1 = b := rfl
  rw [prM, e0, e1, Int.toNat_natCast, Int.toNat_natCast]
theorem mskL_len (L : List (List Int)) : (mskL L).length = L.length := by simp [mskL]
theorem mskL_snoc (L : List (List Int)) (p : List Int) : mskL (L ++ [p]) = mskL L ++ [prM p] := by simp [mskL]

set_option maxHeartbeats 1600000 in
theorem kneserRule1_any (n u v p g off c : Nat) (w : World) (hn1 : 4 ≤ n) (hn : n ≤ 6) (hp : w.cell? ⟨p, 0, none⟩ = some (.slice (some ⟨g, off, none⟩) (tri n) c))
    (hm : ∀ i, i < tri n → w.cell? ⟨g, off + i, none⟩ = some (.int .u32 (((mskL (prAll n)).getD i 0 : Nat) : Int))) (huv : u < v) (hv : v < tri n) :
    Calls Try.prog 143 #[.int .i64 (u : Int), .int .i64 (v : Int), .pointer (some ⟨p, 0, none⟩)] w fun e w' => e = .returned (.bool (kneR n u v)) ∧ Drawn w w' := by
  have hk := kne_mask hn1 hn v hv u huv
  have cu := hm u (by omega)
  have cv := hm v hv
  have hmv : ∀ i, (mskL (prAll n)).getD i 0 < 65536 := by
    have : n = 4 ∨ n = 5 ∨ n = 6 := by omega
    have key : ∀ L : List Nat, (∀ x ∈ L, x < 65536) → ∀ i, L.getD i 0 < 65536 := fun L hL i => by
      rw [List.getD_eq_getElem?_getD]
      cases h : L[i]? with
      | none => simp
      | some x => exact hL x (List.mem_of_getElem? h)
    refine key _ ?_
    rcases this with rfl | rfl | rfl <;> decide
  have mu := hmv u
  have mv := hmv v
  obtain ⟨N, hN⟩ : ∃ N, N = tri n := ⟨_, rfl⟩
  have hN15 : N ≤ 15 := by rw [hN]; exact tri_le hn
  rw [← hN] at hp hv
  generalize (mskL (prAll n)).getD u 0 = x at *
  generalize (mskL (prAll n)).getD v 0 = y at *
  have hul : (u : Int) < (N : Int) := by omega
  have hvl : (v : Int) < (N : Int) := by omega
  have hb : bits BinOp.and IntKind.u32 (x : Int) (y : Int) = ((x &&& y : Nat) : Int) := u32_and_nat _ _ (by omega) (by omega)
  have HK : Hid (decide (x &&& y = 0) = kneR n u v) := hk
  obtain ⟨z, hz⟩ : ∃ z, z = x &&& y := ⟨_, rfl⟩
  rw [← hz] at hb HK
  clear hm hmv hk hz hN
  by_cases h0 : z = 0
  · have HE : Hid (kneR n u v = true) := by show _ = _; rw [← HK.out, decide_eq_true h0]
    subst h0
    go_enter Try.func143, Try.ntmps143
    go_wp2_with fail
    go_quiet (fail)
    go_wp2
    go_ret
    exact ⟨by rw [HE.out]; rfl, (Drawn.refl _).more _⟩
  · have HE : Hid (kneR n u v = false) := by show _ = _; rw [← HK.out, decide_eq_false h0]
    have d0 : ((z : Int) == 0) = false := by rw [beq_eq_false_iff_ne]; omega
    clear h0
    go_enter Try.func143, Try.ntmps143
    go_wp2_with fail
    go_quiet (fail)
    go_wp2
    go_ret
    exact ⟨by rw [HE.out]; rfl, (Drawn.refl _).more _⟩

set_option maxHeartbeats 6400000 in
set_option maxRecDepth 100000 in
theorem kneserRule_gen (n : Int) (nv : Value) (w : World) (h : ArgsAt w nv [n]) : Calls Try.prog 113 #[nv] w (GenPost w (if inB n 4 6 then (tri n.toNat : Int) else 0) (kneR n.toNat)) := by
  obtain ⟨k, o, c, rfl, hc⟩ := row_cells h (by simp)
  have h0 : w.cell? ⟨k, o, none⟩ = some (.int .i64 n) := hc 0 (by simp)
  have hmf : ∀ (fn : Fn) (first cap : Array Value) (w : World), (Instr.makeFunc fn first cap).run Try.prog w = .ok (.func fn first cap) w := fun _ _ _ _ => rfl
  obtain ⟨i0, hi, hz0, hz1, hz2⟩ := info_parts Try.infoM
  clear h hc
  by_cases hin : inB n 4 6 = true
  · obtain ⟨n, rfl, hn1, hn⟩ := inB_nat hin (by omega)
    have hn1 : 4 ≤ n := by omega
    have hn : n ≤ 6 := by omega
    have hnI : (n : Int) ≤ 6 := by omega
    have HN : Hid (∀ e W, GenPost w (tri n : Int) (kneR n) e W → GenPost w (if inB (n : Int) 4 6 then (tri (n : Int).toNat : Int) else 0) (kneR (n : Int).toNat) e W) := fun e W h => by rw [if_pos hin, Int.toNat_natCast]; exact h
    have HI := Lib.hid hin
    suffices hs : Calls Try.prog 113 #[.slice (some ⟨k, o, none⟩) [(n : Int)].length c] w (GenPost w (tri n : Int) (kneR n)) from hs.mono HN.out
    have HP0 : Hid (PrsAt w (w.heap.size + 1) (mskL (prL 0 0)) ((w.alloc (.cells #[] 62)).alloc (.cells #[.slice (some ⟨w.heap.size, 0, none⟩) 0 0] 130))) := by
      refine ⟨⟨.slice (some ⟨w.heap.size, 0, none⟩) 0 0, ?_, ?_⟩, ((Below.refl _ _).alloc (Nat.le_refl _) _).alloc (by simp) _⟩
      · have h := BoxT.new (w.alloc (.cells #[] 62)) (.slice (some ⟨w.heap.size, 0, none⟩) 0 0) 130
        rw [size_alloc1] at h
        exact h
      · exact (World.ownsRow_made w #[] 0 (Nat.le_refl _) (Nat.zero_le _) rfl).alloc _
    clear hin HN
    go_enter Try.func113, Try.ntmps113
    go_wp2_with fail
    refine (inRange_any _ _ _ _).mono ?_
    rintro e w' ⟨rfl, rfl⟩
    rw [HI.out]
    go_wp2_with fail
    go_loopw [16] (fun i wr => ∃ b : Nat, b ≤ n ∧ i = .int .i64 b ∧ PrsAt w (w.heap.size + 1) (mskL (prL b 0)) wr) (fun i _ => n - (intOf i).toNat)
    case atStart => exact ⟨0, Nat.zero_le _, rfl, HP0.out⟩
    case round =>
      obtain ⟨b, hb, rfl, hp⟩ := hrel
      have HP := Lib.hid hp
      clear hp
      by_cases hlt : b < n
      · go_wp2_with fail
        go_loopw [20] (fun i wr => ∃ a : Nat, a ≤ b ∧ i = .int .i64 a ∧ PrsAt w (w.heap.size + 1) (mskL (prL b a)) wr) (fun i _ => b - (intOf i).toNat)
        case atStart => exact ⟨0, Nat.zero_le _, rfl, HP.out⟩
        case round =>
          rename World => w4
          obtain ⟨a, ha, rfl, hp⟩ := hrel
          by_cases hal : a < b
          · have htb := tri_le (n := b) (by omega)
            have hll : (mskL (prL b a)).length ≤ 30 := by rw [mskL_len, prL_len]; omega
            have HNX : Hid (mskL (prL b (a + 1)) = mskL (prL b a) ++ [2 ^ a ||| 2 ^ b]) := by show _ = _; rw [prL_next, mskL_snoc, prM_pair]
            have hbp := bits_pair (a := a) (b := b) (by omega) (by omega)
            obtain ⟨m, hm⟩ : ∃ m, m = 2 ^ a ||| 2 ^ b := ⟨_, rfl⟩
            have HM : Hid (mskL (prL b (a + 1)) = mskL (prL b a) ++ [m]) := by show _ = _; rw [HNX.out, hm]
            rw [← hm] at hbp
            obtain ⟨⟨s, hbt, hos⟩, hbe⟩ := hp
            obtain ⟨ms, hms⟩ : ∃ ms, ms = mskL (prL b a) := ⟨_, rfl⟩
            have HMS := Lib.hid hms
            rw [← hms] at hos hll
            have hz4 : w.heap.size + 1 < w4.heap.size := hbt.lt
            have kb := hbt.box.1
            have kf := hbt.box.2
            have ka : (w4.alloc (.cells #[.int .u32 (m : Int)] 62)).cell? ⟨w.heap.size + 1, 0, none⟩ = some s := cell_keep ((Below.refl _ _).alloc (Nat.le_refl _) _) kb
            have HBT := Lib.hid hbt
            have HO := Lib.hid hos
            have HBE := Lib.hid hbe
            have HOA : Hid ((w4.alloc (.cells #[.int .u32 (m : Int)] 62)).drew.ownsRow w.heap.size 62 1 s ms.length (ms.map (fun m : Nat => Value.int .u32 (m : Int)))) := HO.out.alloc _
            have HBTA : Hid (BoxT 130 (w4.alloc (.cells #[.int .u32 (m : Int)] 62)).drew (w.heap.size + 1) s) := HBT.out.keep ((Below.refl _ _).alloc (Nat.le_refl _) _).drew
            have HBEA : Hid (Below w.heap.size w (w4.alloc (.cells #[.int .u32 (m : Int)] 62)).drew) := (HBE.out.alloc HBE.out.size _).drew
            have ha16 : (a : Int) < 16 := by omega
            have hb16 : (b : Int) < 16 := by omega
            clear hm hbt hos hbe hms HNX
            go_wp2_with fail
            go_region_law (first
              | (refine step_append_own _ (by rfl) (.tmp 23) (.tmp 29) 130 (by rfl) w.heap.size 62 i0 (.int .u32 0) 1 4 Try.underlying130 hi hz0 hz1 hz2 rfl (by decide) s ms.length (ms.map (fun m : Nat => Value.int .u32 (m : Int))) (by rfl) HOA.out ⟨w4.heap.size, 0, none⟩ 1 1 [.int .u32 (m : Int)] (by rfl) (by rfl) (litM _ _ _) (oneM _) (by unfold maxLen; omega) (by omega) (by simp; omega) ?_; intro v6 w6 hown6 hgrow6; obtain ⟨g6, cap6, e6⟩ := owns_form hown6; subst e6; have HBT6 : Hid (BoxT 130 w6 (w.heap.size + 1) s) := BoxT.grown HBTA.out HOA.out (by decide) hgrow6; have kb6 := HBT6.out.box.1; have kf6 := HBT6.out.box.2; have HO6 := Lib.hid hown6; have HB6 : Hid (Below w.heap.size w w6) := HBEA.out.grown hgrow6 (by simp; omega) (fun j hj => (HO.out.lt j hj).1); clear hown6 hgrow6))
            all_goals (
              have HP6 : Hid (PrsAt w (w.heap.size + 1) (mskL (prL b (a + 1))) (w6.setCell ⟨w.heap.size + 1, 0, none⟩ (.slice (some ⟨g6, 0, none⟩) (ms.length + 1) cap6))) := by
                refine ⟨⟨_, HBT6.out.set _, ?_⟩, HB6.out.setCell (by simp) _⟩
                rw [HM.out, ← HMS.out, List.length_append, List.map_append]
                exact owns_set HBT6.out HO6.out (by decide)
              clear kb kf ka kb6 kf6
              go_wp2
              go_roundw
              case rel => exact ⟨a + 1, by omega, by go_num, HP6.out⟩
              case measure => simp [intOf]; omega)
          · obtain rfl : a = b := by omega
            rw [prL_turn] at hp
            have HP4 := Lib.hid hp
            clear hp
            go_wp2
            go_roundw
            case rel => exact ⟨a + 1, by omega, by go_num, HP4.out⟩
            case measure => simp [intOf]; omega
      · obtain rfl : b = n := by omega
        obtain ⟨⟨s, hbt, hos⟩, hbe⟩ := HP.out
        rw [prL_zero, mskL_len, prAll_len] at hos
        have hl0 : (mskL (prAll b)).length = tri b := by rw [mskL_len, prAll_len]
        have hpos : 1 ≤ tri b := Nat.le_trans (by decide : 1 ≤ tri 4) (tri_mono hn1)
        have h15 := tri_le hn
        rcases hos.2 with ⟨_, e0⟩ | ⟨g, cap, cur, rfl, hgB, hg, l1, l2, hcs, hct⟩
        · exact absurd e0 (by omega)
        have kb := hbt.box.1
        have hgl : g < wr.heap.size := (Array.getElem?_eq_some_iff.1 hg).1
        have hlt2 := hbt.lt
        have hcells : ∀ i, i < tri b → wr.cell? ⟨g, 0 + i, none⟩ = some (.int .u32 (((mskL (prAll b)).getD i 0 : Nat) : Int)) := fun i hi => by
          rw [Nat.zero_add, cell_of_row wr g i cur _ _ hg]
          have h5 : (cur.toList.take (tri b * 1))[i]? = ((mskL (prAll b)).map (fun m : Nat => Value.int .u32 (m : Int)))[i]? := by rw [hct]
          rw [List.getElem?_take, if_pos (by omega), List.getElem?_map] at h5
          rw [List.getD_eq_getElem?_getD]
          have h6 : (mskL (prAll b))[i]? = some ((mskL (prAll b))[i]'(by rw [hl0]; exact hi)) := List.getElem?_eq_getElem _
          rw [h6] at h5 ⊢
          simpa using h5
        have HC := Lib.hid hcells
        have HBE := Lib.hid hbe
        have KB := Lib.hid kb
        have HGL := Lib.hid hgl
        have HL2 := Lib.hid hlt2
        have HT15 := Lib.hid h15
        clear hcells hbe hgl hlt2 hos hbt hg hcs hct HP hgB l1 l2 hl0 hpos h15
        have hpos' := HL2.out
        obtain ⟨N, hN⟩ : ∃ N, tri b = N := ⟨_, rfl⟩
        have HNE := Lib.hid hN
        have KI : Hid (∀ x : World, (∀ j, j < wr.heap.size → x.heap[j]? = wr.heap[j]?) → x.cell? ⟨w.heap.size + 1, 0, none⟩ = some (.slice (some ⟨g, 0, none⟩) N cap) ∧ ∀ i, i < N → x.cell? ⟨g, 0 + i, none⟩ = some (.int .u32 (((mskL (prAll b)).getD i 0 : Nat) : Int))) := fun x hx => by
          refine ⟨?_, fun i hi => ?_⟩
          · rw [World.cell?_of_block (w := wr) (hx _ HL2.out), ← hN]; exact KB.out
          · rw [World.cell?_of_block (w := wr) (hx _ HGL.out)]; exact HC.out i (by rw [hN]; exact hi)
        have HQ : Hid (∀ (u v : Nat) (x : World), u < v → v < N → x.cell? ⟨w.heap.size + 1, 0, none⟩ = some (.slice (some ⟨g, 0, none⟩) N cap) → (∀ i, i < N → x.cell? ⟨g, 0 + i, none⟩ = some (.int .u32 (((mskL (prAll b)).getD i 0 : Nat) : Int))) → Calls Try.prog 143 #[.int .i64 (u : Int), .int .i64 (v : Int), .pointer (some ⟨w.heap.size + 1, 0, none⟩)] x fun e w' => e = .returned (.bool (kneR b u v)) ∧ Drawn x w') := fun u v x huv hv h1 h2 => by
          subst hN
          exact kneserRule1_any b u v _ g 0 cap x hn1 hn h1 h2 huv hv
        rw [hN] at kb ⊢
        clear hN HC
        go_wp2
        refine bodyPost_ret (v := .tuple #[.int .i64 (N : Int), .func (.func 143) #[] #[.pointer (some ⟨w.heap.size + 1, 0, none⟩)]]) (by simp [results, Try.results113, go_sem]) rfl ?_
        rw [HNE.out]
        refine ⟨_, rfl, HBE.out, fun _ => ⟨_, _, fun _ x => x.cell? ⟨w.heap.size + 1, 0, none⟩ = some (.slice (some ⟨g, 0, none⟩) N cap) ∧ ∀ i, i < N → x.cell? ⟨g, 0 + i, none⟩ = some (.int .u32 (((mskL (prAll b)).getD i 0 : Nat) : Int)), rfl, ⟨fun _ _ => by kernel_rfl, fun _ x y hi _ hk => ⟨cell_of_same hi.1 (hk _ HL2.out), fun i hil => cell_of_same (hi.2 i hil) (hk _ HGL.out)⟩, fun u v x huv hv hi => ?_⟩, KI.out wr (fun _ _ => rfl)⟩⟩
        rw [Int.toNat_natCast] at hv
        refine (HQ.out u v x huv hv hi.1 hi.2).mono ?_
        rintro e y ⟨rfl, hd⟩
        exact ⟨rfl, ⟨cell_drawn hd hi.1, fun i hil => cell_drawn hd (hi.2 i hil)⟩, drawn_touched hd⟩
  · have hin' : inB n 4 6 = false := by simpa using hin
    have HN : Hid (∀ e W, GenPost w 0 (kneR n.toNat) e W → GenPost w (if inB n 4 6 then (tri n.toNat : Int) else 0) (kneR n.toNat) e W) := fun e W h => by rw [if_neg hin]; exact h
    have HI := Lib.hid hin'
    suffices hs : Calls Try.prog 113 #[.slice (some ⟨k, o, none⟩) [n].length c] w (GenPost w 0 (kneR n.toNat)) from hs.mono HN.out
    clear hin hin' HN hi hz0 hz1 hz2
    go_enter Try.func113, Try.ntmps113
    go_wp2_with fail
    refine (inRange_any _ _ _ _).mono ?_
    rintro e w' ⟨rfl, rfl⟩
    rw [HI.out]
    go_wp2
    refine bodyPost_ret (v := .tuple #[.int .i64 0, .nilFunc]) (by simp [results, Try.results113, go_sem]) rfl ?_
    exact ⟨_, rfl, Below.refl _ _, fun h => by simp [inB] at h⟩

end Go.Proofs.Ytojbaepcflkgeaa

/- Walks: the program's generators of Kneser. Written by program (tools/gen/genimpl.py). -/
namespace Go.Proofs.Ytojbaepcflkgeaa
open Go.RowKit

theorem kne_in (n : Int) : inB (if inB n 4 6 then (tri n.toNat : Int) else 0) 1 16 = inB n 4 6 := by
  by_cases h : inB n 4 6 = true
  · rw [if_pos h, h, inB_iff]
    have h2 := inB_iff.1 h
    have h3 := tri_le (n := n.toNat) (by omega)
    have h4 := tri_mono (m := 4) (n := n.toNat) (by omega)
    have h5 : tri 4 = 6 := rfl
    omega
  · rw [if_neg h, Bool.eq_false_iff.2 h]; rfl

set_option maxHeartbeats 800000 in
theorem implKneserGraph_any (n : Int) (w : World) : Calls Try.prog 34 #[.int .i64 n] w (GaveGB w (genL (inB n 4 6) (tri n.toNat) (kneR n.toNat)) (inB n 4 6)) := by
  have HB0 : Hid (Below w.heap.size w ((w.alloc (.cells #[.slice none 0 0] 30)).alloc (.cells #[.int .i64 n] 2))) := ((Below.refl _ _).alloc (Nat.le_refl _) _).alloc (by simp) _
  have HBX0 : Hid (BoxAt ((w.alloc (.cells #[.slice none 0 0] 30)).alloc (.cells #[.int .i64 n] 2)) w.heap.size (.slice none 0 0)) := (BoxAt.new w _ _).keep ((Below.refl _ _).alloc (Nat.le_refl _) _)
  have hrow : ArgsAt ((w.alloc (.cells #[.slice none 0 0] 30)).alloc (.cells #[.int .i64 n] 2)) (.slice (some ⟨w.heap.size + 1, 0, none⟩) 1 1) [n] := by
    have h := ArgsAt.new (w.alloc (.cells #[.slice none 0 0] 30)) [n] 1
    rw [size_alloc1] at h
    exact h
  have HR := Lib.hid hrow
  have HSZ : Hid (((w.alloc (.cells #[.slice none 0 0] 30)).alloc (.cells #[.int .i64 n] 2)).heap.size = w.heap.size + 1 + 1) := by show _ = _; rw [size_alloc1, size_alloc1]
  obtain ⟨N, hN⟩ : ∃ N, N = (if inB n 4 6 then (tri n.toNat : Int) else 0) := ⟨_, rfl⟩
  have HQ : Hid (∀ e W, GaveGB w (genL (inB N 1 16) N.toNat (kneR n.toNat)) (inB N 1 16) e W → GaveGB w (genL (inB n 4 6) (tri n.toNat) (kneR n.toNat)) (inB n 4 6) e W) := fun e W h => by
    have he : genL (inB N 1 16) N.toNat (kneR n.toNat) = genL (inB n 4 6) (tri n.toNat) (kneR n.toNat) ∧ inB N 1 16 = (inB n 4 6) := by
      rw [hN]
      exact genL_to (kne_in n) (fun h => by rw [if_pos h, Int.toNat_natCast])
    rw [← he.1, ← he.2]; exact h
  have HG : Hid (∀ W, Below ((w.alloc (.cells #[.slice none 0 0] 30)).alloc (.cells #[.int .i64 n] 2)).heap.size ((w.alloc (.cells #[.slice none 0 0] 30)).alloc (.cells #[.int .i64 n] 2)) W → Calls Try.prog 113 #[.slice (some ⟨w.heap.size + 1, 0, none⟩) 1 1] W (GenPost W N (kneR n.toNat))) := fun W hb => by
    rw [hN]
    exact kneserRule_gen n _ W (HR.out.keep hb)
  clear hrow hN
  go_enter Try.func34, Try.ntmps34
  go_wp2_with fail
  refine (made6_any _ N (kneR n.toNat) _ HG.out).mono ?_
  rintro e w2 ⟨n2, a2, c2, rfl, ho2, hb2⟩
  have kr := (HBX0.out.keep hb2).1
  have kf := (HBX0.out.keep hb2).2
  have hgl := (HBX0.out.keep hb2).lt
  have HB2 : Hid (Below w.heap.size w w2) := HB0.out.trans (hb2.mono HB0.out.size)
  have HO2 := Lib.hid ho2
  have hz := HSZ.out
  clear ho2 hb2
  obtain ⟨ok, hok⟩ : ∃ ok, ok = inB N 1 16 := ⟨_, rfl⟩
  have HK := Lib.hid hok
  rw [← hok]
  clear hok
  go_wp2
  refine bodyPost_ret (v := .tuple #[.agg #[.slice a2 n2 c2], .bool ok]) (by simp [results, Try.results34, go_sem, cell_set_same _ kr]) rfl ?_
  refine HQ.out _ _ ?_
  rw [← HK.out]
  exact ⟨n2, a2, c2, rfl, (by rw [HK.out]; exact HO2.out.setBelow (by simp; omega) _ : OwnGrid _ _ _ _ _ _).mono (by omega), HB2.out.setCell (by simp) _⟩

end Go.Proofs.Ytojbaepcflkgeaa
