/- The texts DM4, DM5, DM6, DM7, joined. -/
import Derived.Test.YtohjfcfcopbmoaaQDM2
import Derived.Test.YtohjfcfcopbmoaaCompactLay
import Derived.Test.YtohjfcfcopbmoaaQN4
import Derived.Deep.RegionHeld3

/- Walks: the bag of a list (bagOf), whether it has a number (has), of the program. -/
namespace Go.Proofs.Ytohjfcfcopbmoaa
open Go.RowKit Go.Shelf

theorem OwnRow.short {T : TypeId} {w : World} {B g n cap m : Nat} {xs : List Int} (h : OwnRow T w B (.slice (some ⟨g, 0, none⟩) n cap) xs) (hm : m ≤ xs.length) : OwnRow T w B (.slice (some ⟨g, 0, none⟩) m cap) (xs.take m) := by
  obtain ⟨h1, h2, h3⟩ := h
  have hl : (xs.take m).length = m := by rw [List.length_take]; omega
  refine ⟨fun x hx => h1 x (List.mem_of_mem_take hx), by omega, Or.inr ?_⟩
  rcases h3 with ⟨e, _⟩ | ⟨g', cap', cur, e, hg, hh, l1, l2, hs, hc⟩
  · cases e
  · simp only [Value.slice.injEq, Option.some.injEq, Addr.mk.injEq, and_true] at e
    obtain ⟨rfl, rfl, rfl⟩ := e
    refine ⟨g, cap, cur, by rw [hl], hg, hh, by omega, l2, hs, fun i hi => ?_⟩
    rw [hl] at hi
    rw [hc i (by omega)]
    simp [nth, hi, List.getElem?_take]
theorem compact_mem (zs : List Int) (x : Int) (h : x ∈ Lib.compact zs) : x ∈ zs := by
  rw [compact_eq] at h
  obtain ⟨j, hj, rfl⟩ := List.mem_map.1 h
  exact nth_mem (List.mem_range.1 (List.mem_filter.1 hj).1)
theorem compact_len (zs : List Int) : (Lib.compact zs).length ≤ zs.length := by
  rw [compact_eq, List.length_map]
  refine Nat.le_trans (List.length_filter_le _ _) ?_
  rw [List.length_range]
  exact Nat.le_refl _

theorem grow_none (W : World) : Go.Sort.grow W #[] = W := by cases W; simp [Go.Sort.grow]
theorem compactD_any (g n cap B : Nat) (xs : List Int) (w : World) (h : OwnRow 2 w B (.slice (some ⟨g, 0, none⟩) n cap) xs) (hl : xs.length ≤ 2000000) :
    Calls Try.prog 85 #[.slice (some ⟨g, 0, none⟩) n cap] w fun e w' => ∃ m, e = .returned (.slice (some ⟨g, 0, none⟩) m cap) ∧ OwnRow 2 w' B (.slice (some ⟨g, 0, none⟩) m cap) (Lib.compact xs) ∧ Below B w w' := by
  have hI := h.1
  have hM := h.2.1
  obtain ⟨_, h3⟩ := h.owns
  rcases h3 with ⟨e, _⟩ | ⟨g', cap', cur, e, hg, hh, l1, l2, hs, ht⟩
  · cases e
  simp only [Value.slice.injEq, Option.some.injEq, Addr.mk.injEq, and_true] at e
  obtain ⟨rfl, rfl, rfl⟩ := e
  have hlt : g < w.heap.size := (Array.getElem?_eq_some_iff.1 hh).1
  have hc := AnyG.slices_Compact_int Try.lcompact g 0 cap xs w (Go.holds_of_blockI hh (by simpa using ht)) (by omega) l1
  change Calls Try.prog 85 _ _ _ at hc
  refine hc.mono ?_
  rintro e w' ⟨rfl, q, rfl⟩
  have hcl := compact_len xs
  obtain ⟨ts, hts⟩ : ∃ ts, ts = Lib.compact xs ++ List.replicate (xs.length - (Lib.compact xs).length) 0 := ⟨_, rfl⟩
  have htl : ts.length = xs.length := by rw [hts, List.length_append, List.length_replicate]; omega
  have htI : ∀ x ∈ ts, I64 x := fun x hx => by
    rw [hts] at hx
    rcases List.mem_append.1 hx with hx | hx
    · exact hI x (compact_mem xs x hx)
    · rw [(List.mem_replicate.1 hx).2]; unfold I64; omega
  rw [← hts]
  have hgr : Go.Sort.putRow (Value.int .i64) (Go.Sort.ahead w q) g 0 ts.toArray = Go.Sort.grow (Go.Sort.putRow (Value.int .i64) (Go.Sort.ahead w q) g 0 ts.toArray) #[] := (grow_none _).symm
  have hown := Go.ownsRow_sortedI (w := w) (n := q) (os := #[]) (ts := ts) (ss := xs) htl hg hh l1 l2 hs
  obtain ⟨a1, a2, a3, a4, a5⟩ := Go.grownBy_sortedI (w := w) (g := g) (n := q) (os := #[]) ts.toArray
  rw [← hgr] at hown a1 a2 a3 a4 a5
  have hor : OwnRow 2 _ B (.slice (some ⟨g, 0, none⟩) xs.length cap) ts := OwnRow.of_ownsRow (n := xs.length) hown (by omega) htI
  have hsh := hor.short (m := (Lib.compact xs).length) (by omega)
  rw [show ts.take (Lib.compact xs).length = Lib.compact xs by rw [hts]; simp] at hsh
  exact ⟨_, rfl, hsh, a1, a2, a3, a4, fun k hk => a5 k (by omega) (fun e => by cases e; omega)⟩

set_option maxHeartbeats 1000000 in
set_option maxRecDepth 100000 in
theorem bagOf_any (v : Value) (xs : List Int) (w : World) (h : RowAt w v xs) (hl : xs.length ≤ 2000000) :
    Calls Try.prog 68 #[v] w (GaveRow w (bagR xs)) := by
  obtain ⟨a0, c0, rfl⟩ := h.slice
  go_enter Try.func68, Try.ntmps68
  go_wp2_with fail
  refine (cloneD_any _ xs _ h hl).mono ?_
  rintro e w1 ⟨n1, a1, c1, rfl, ho1, hb1⟩
  obtain ⟨a1', c1', e1⟩ := ho1.row.slice
  simp only [Value.slice.injEq] at e1
  obtain ⟨rfl, rfl, rfl⟩ := e1
  have HB1 := Lib.hid hb1
  clear hb1 h
  go_wp2_with fail
  refine (sortD_any _ w.heap.size xs _ ho1 hl).mono ?_
  rintro e w2 ⟨rfl, ho2, hb2⟩
  have HB2 : Hid (Below w.heap.size w w2) := HB1.out.trans hb2
  have hls := sorted_len xs
  clear hb2 ho1
  rcases ho2.2.2 with ⟨e1, e2⟩ | ⟨g, cap, cur, e1, _⟩
  · simp only [Value.slice.injEq] at e1
    obtain ⟨rfl, hn, rfl⟩ := e1
    have hx0 : xs = [] := List.length_eq_zero_iff.1 hn
    subst hx0
    have HOB : Hid (OwnRow 2 w2 w.heap.size (.slice none 0 0) (bagR [])) := ⟨by simp [bagR, sorted, compact_eq], by simp [bagR, sorted, compact_eq], .inl ⟨rfl, by simp [bagR, sorted, compact_eq]⟩⟩
    clear ho2 hls hn
    go_wp2_with fail
    refine (show Calls Try.prog 85 #[.slice none 0 0] w2 fun e w' => e = .returned (.slice none 0 0) ∧ w' = w2 from AnyG.slices_Compact_int_empty Try.lcompact none 0 w2).mono ?_
    rintro e w3 ⟨rfl, rfl⟩
    go_wp2
    go_ret
    exact ⟨_, _, _, rfl, HOB.out, HB2.out⟩
  · simp only [Value.slice.injEq] at e1
    obtain ⟨rfl, hn, rfl⟩ := e1
    have HLS := Lib.hid hls
    clear hn hls
    go_wp2_with fail
    refine (compactD_any g xs.length c1 w.heap.size (sorted xs) w2 ho2 (by rw [HLS.out]; exact hl)).mono ?_
    rintro e w3 ⟨m3, rfl, ho3, hb3⟩
    have HB3 : Hid (Below w.heap.size w w3) := HB2.out.trans hb3
    have HO3 := Lib.hid ho3
    clear ho2 ho3 hb3
    go_wp2
    go_ret
    exact ⟨_, _, _, rfl, HO3.out, HB3.out⟩

end Go.Proofs.Ytohjfcfcopbmoaa

/- Walks: whether a bag has a number (slices.BinarySearch by hand), of the program. -/
namespace Go.Proofs.Ytohjfcfcopbmoaa
open Go.RowKit Go.Shelf

theorem bs_ret {k : Nat} {b c : Bool} (h : b = c) : Ending.returned (.tuple #[.int .i64 (k : Int), .bool b]) = .returned (.tuple #[.int .i64 (k : Int), .bool c]) := by rw [h]
/-- A place, and whether x is there. -/
def BsHas (w : World) (xs : List Int) (x : Int) (e : Ending) (w' : World) : Prop := (∃ k : Nat, e = .returned (.tuple #[.int .i64 k, .bool (hasB xs x)])) ∧ w = w'

set_option maxHeartbeats 1600000 in
set_option maxRecDepth 100000 in
theorem bsD_any (v : Value) (xs : List Int) (x : Int) (w : World) (h : RowAt w v xs) (hs : xs.length ≤ 2000000) (hm : ∀ i j, i < j → j < xs.length → nth xs i < nth xs j) : Calls Try.prog 92 #[v, .int .i64 x] w (BsHas w xs x) := by
  have HR := Lib.hid h
  have HM := Lib.hid hm
  obtain ⟨a, c, rfl⟩ := h.slice
  clear h hm
  go_enter Try.func92, Try.ntmps92
  go_wp2_with fail
  go_loop [7, 8] (fun s t => ∃ i j : Nat, i ≤ j ∧ j ≤ xs.length ∧ s = .int .i64 i ∧ t = .int .i64 j ∧ (∀ q, q < i → nth xs q < x) ∧ (∀ q, j ≤ q → q < xs.length → x ≤ nth xs q)) (fun s t => (intOf t - intOf s).toNat)
  case atStart => exact ⟨0, xs.length, Nat.zero_le _, Nat.le_refl _, rfl, rfl, (fun q hq => absurd hq (by omega)), (fun q h1 h2 => absurd h2 (by omega))⟩
  case round =>
    obtain ⟨i, j, hij, hj, rfl, rfl, hlo, hhi⟩ := hrel
    have HLO := Lib.hid hlo
    have HHI := Lib.hid hhi
    clear hlo hhi
    by_cases hlt : i < j
    · obtain ⟨b, o, c', e2, l1, l2, hc⟩ := HR.out.pos (by omega)
      simp only [Value.slice.injEq, true_and] at e2
      obtain ⟨rfl, rfl⟩ := e2
      have hck := hc ((i + j) / 2) (by omega)
      clear hc
      go_wp2_with fail
      refine (less_any _ _ _).mono ?_
      rintro e w' ⟨rfl, rfl⟩
      have hh : ((i : Int) + (j : Int)) / 2 = (((i + j) / 2 : Nat) : Int) := by omega
      have HH := Lib.hid hh
      have hml : (i + j) / 2 < xs.length := by omega
      clear hh hck
      by_cases hd : nth xs ((i + j) / 2) < x
      · rw [decide_eq_true hd]
        have HD := Lib.hid hd
        clear hd
        go_wp2
        go_round
        case rel =>
          refine ⟨(i + j) / 2 + 1, j, by omega, hj, by rw [HH.out]; rfl, rfl, fun q hq => ?_, HHI.out⟩
          by_cases e : q = (i + j) / 2
          · rw [e]; exact HD.out
          · have := HM.out q ((i + j) / 2) (by omega) hml
            have := HD.out
            omega
        case measure => simp [intOf]; omega
      · rw [decide_eq_false hd]
        have HD := Lib.hid hd
        clear hd
        go_wp2
        go_round
        case rel =>
          refine ⟨i, (i + j) / 2, by omega, by omega, rfl, by rw [HH.out], HLO.out, fun q hq hql => ?_⟩
          by_cases e : q = (i + j) / 2
          · rw [e]; have := HD.out; omega
          · have := HM.out ((i + j) / 2) q (by omega) hql
            have := HD.out
            omega
        case measure => simp [intOf]; omega
    · obtain rfl : i = j := by omega
      by_cases hil : i < xs.length
      · obtain ⟨b, o, c', e2, l1, l2, hc⟩ := HR.out.pos (by omega)
        simp only [Value.slice.injEq, true_and] at e2
        obtain ⟨rfl, rfl⟩ := e2
        have hck := hc i hil
        have hilI : (i : Int) < (xs.length : Int) := by omega
        clear hc
        by_cases he : (nth xs i == x) = true
        · have HE : Hid (hasB xs x = true) := (hasB_mem _ _).2 (by rw [← beq_iff_eq.1 he]; exact nth_mem hil)
          go_wp2
          go_ret2
          exact ⟨⟨i, bs_ret HE.out.symm⟩, rfl⟩
        · have he' : (nth xs i == x) = false := by simpa using he
          have HE : Hid (hasB xs x = false) := by
            show _ = _
            cases hh : hasB xs x with
            | false => rfl
            | true =>
              exfalso
              obtain ⟨q, hq, e⟩ := List.getElem_of_mem ((hasB_mem _ _).1 hh)
              rw [← nth_eq hq] at e
              rcases Nat.lt_trichotomy q i with h | h | h
              · have := HLO.out q h; omega
              · subst h; rw [e] at he; simp at he
              · have h1 := HM.out i q h hq
                have h2 := HHI.out i (Nat.le_refl _) hil
                omega
          clear he
          go_wp2_with fail
          refine (isNaNs_any _ _).mono ?_
          rintro e w' ⟨rfl, rfl⟩
          go_wp2
          go_ret2
          exact ⟨⟨i, bs_ret HE.out.symm⟩, rfl⟩
      · have HE : Hid (hasB xs x = false) := by
          show _ = _
          cases hh : hasB xs x with
          | false => rfl
          | true =>
            exfalso
            obtain ⟨q, hq, e⟩ := List.getElem_of_mem ((hasB_mem _ _).1 hh)
            rw [← nth_eq hq] at e
            have := HLO.out q (by omega)
            omega
        go_wp2
        go_ret2
        exact ⟨⟨i, bs_ret HE.out.symm⟩, rfl⟩


theorem bagHas_any (v : Value) (xs : List Int) (x : Int) (w : World) (h : RowAt w v xs) (hs : xs.length ≤ 2000000) (hm : ∀ i j, i < j → j < xs.length → nth xs i < nth xs j) :
    Calls Try.prog 86 #[v, .int .i64 x] w fun e w' => e = .returned (.bool (hasB xs x)) ∧ w = w' := by
  have HC := Lib.hid (bsD_any v xs x w h hs hm)
  obtain ⟨a, c, rfl⟩ := h.slice
  clear h hm
  go_enter Try.func86, Try.ntmps86
  go_wp2_with fail
  refine HC.out.mono ?_
  rintro e w' ⟨⟨k, rfl⟩, rfl⟩
  clear HC
  go_wp2
  go_ret
  exact ⟨rfl, rfl⟩

end Go.Proofs.Ytohjfcfcopbmoaa

/- Walks: the numbers of a list that a bag has (meet), of the program. -/
namespace Go.Proofs.Ytohjfcfcopbmoaa
open Go.RowKit Go.Shelf

set_option maxHeartbeats 2000000 in
set_option maxRecDepth 100000 in
theorem bagMeet_any (v v1 : Value) (xs ys : List Int) (w : World) (h : RowAt w v xs) (h1 : RowAt w v1 ys) (hlen : xs.length ≤ 2000000) (hys : ys.length ≤ 2000000) (hm : ∀ i j, i < j → j < ys.length → nth ys i < nth ys j) :
    Calls Try.prog 69 #[v1, v] w (GaveRow w (xs.filter (fun x => hasB ys x))) := by
  obtain ⟨i0, hi, hz0, hz1, hz2⟩ := info_parts Try.infoI
  obtain ⟨a0, c0, rfl⟩ := h.slice
  have HR : Hid (∀ W, Below w.heap.size w W → RowAt W (.slice a0 xs.length c0) xs) := fun W hb => h.keep hb
  have HR1 : Hid (∀ W, Below w.heap.size w W → RowAt W v1 ys) := fun W hb => h1.keep hb
  have HO0 : Hid (OwnRow 2 (w.alloc (.cells #[] 2)) w.heap.size (.slice (some ⟨w.heap.size, 0, none⟩) 0 0) []) := own_noneD w _ (Nat.le_refl _)
  have HB0 : Hid (Below w.heap.size w (w.alloc (.cells #[] 2))) := (Below.refl _ _).alloc (Nat.le_refl _) _
  have HX := Lib.hid h.1
  have HALL : Hid (meetTo ys xs xs.length = xs.filter (fun x => hasB ys x)) := by show _ = _; unfold meetTo; rw [List.take_length]
  have HM2 := Lib.hid hm
  obtain ⟨a1, c1, rfl⟩ := h1.slice
  clear h h1 hm
  go_enter Try.func69, Try.ntmps69
  go_wp2_with fail
  go_loopw [5, 11] (fun s i wr => ∃ k : Nat, k ≤ xs.length ∧ i = .int .i64 k ∧ OwnRow 2 wr w.heap.size s (meetTo ys xs k) ∧ Below w.heap.size w wr) (fun _ i _ => xs.length - (intOf i).toNat)
  case atStart => exact ⟨0, Nat.zero_le _, rfl, HO0.out, HB0.out⟩
  case round =>
    obtain ⟨k, hk, rfl, ho, hb⟩ := hrel
    have hyl := meetTo_len ys xs k
    obtain ⟨zs, hzs⟩ : ∃ zs, zs = meetTo ys xs k := ⟨_, rfl⟩
    have HZS := Lib.hid hzs
    rw [← hzs] at ho hyl
    obtain ⟨a5, c5, e5⟩ := ho.row.slice
    subst e5
    obtain ⟨m, hm⟩ : ∃ m, m = zs.length := ⟨_, rfl⟩
    rw [← hm] at ho hyl ⊢
    have HM := Lib.hid hm
    have HO := Lib.hid ho
    have HB := Lib.hid hb
    clear hm hzs ho
    by_cases hlt : k < xs.length
    · have HNX := Lib.hid (meetTo_succ ys hlt)
      rw [← HZS.out] at HNX
      obtain ⟨bx, ox, cx, ex, lx1, lx2, hcx⟩ := (HR.out _ hb).pos (by omega)
      simp only [Value.slice.injEq, true_and] at ex
      obtain ⟨rfl, rfl⟩ := ex
      have hck := hcx k hlt
      have hxk := HX.out _ (nth_mem hlt)
      have HXK := Lib.hid hxk
      obtain ⟨x, hx⟩ : ∃ x, x = nth xs k := ⟨_, rfl⟩
      rw [← hx] at hck HNX hxk HXK
      have hkI : (k : Int) < (xs.length : Int) := by omega
      have HCA := Lib.hid (bagHas_any _ ys x wr (HR1.out _ hb) hys HM2.out)
      obtain ⟨t, ht⟩ : ∃ t, t = hasB ys x := ⟨_, rfl⟩
      rw [← ht] at HCA HNX
      clear hcx hx ht hb
      go_wp2_with fail
      refine HCA.out.mono ?_
      rintro e w2 ⟨rfl, rfl⟩
      clear HCA
      cases t with
      | false =>
        clear hck
        go_wp2
        go_roundw
        case rel => exact ⟨k + 1, by omega, by go_num, by rw [HNX.out, if_neg (by simp)]; exact HO.out, HB.out⟩
        case measure => simp [intOf]; omega
      | true =>
        have hown := HO.out.owns
        rw [← HM.out] at hown
        have HWO := Lib.hid hown
        clear hown
        go_wp2_with (at_builtin; refine wpList_append_lies _ rfl (.tmp 18) (.tmp 20) 33 rfl w.heap.size 2 i0 (.int .i64 0) 1 8 Try.underlying33 hi hz0 hz1 hz2 rfl (by decide) _ _ _ rfl (HWO.out.alloc _) ⟨wr.heap.size, 0, none⟩ 1 1 [.int .i64 x] rfl rfl (World.news_of_block (heap_alloc_new _ _)) (ints_one [x]) Nat.one_pos ?d3 ?d4 ?d5 (wr.heap.size + 1) (size_alloc1 _ _) ?_)
        case d3 => unfold maxLen; omega
        case d4 => omega
        case d5 => have := HB.out.size; simp; omega
        intro g12 cap12 w12 hown12 hgrow12 _ _
        have hb12 : Below w.heap.size wr w12 := ((Below.refl _ _).alloc HB.out.size _).grown hgrow12 (by have := HB.out.size; simp; omega) (fun j hj => (HWO.out.lt j hj).1)
        have HEND : Hid (OwnRow 2 w12 w.heap.size (.slice (some ⟨g12, 0, none⟩) (m + 1) cap12) (meetTo ys xs (k + 1)) ∧ Below w.heap.size w w12) := by
          rw [HNX.out]
          simp only [if_true]
          refine ⟨?_, HB.out.trans hb12⟩
          exact OwnRow.of_ownsRow (xs := zs ++ [x]) (n := m + 1) (by simpa using hown12) (by rw [List.length_append, ← HM.out, List.length_singleton]; unfold maxLen; omega) (fun z hz => by
            rcases List.mem_append.1 hz with hz | hz
            · exact HO.out.1 z hz
            · rw [List.mem_singleton] at hz; subst hz; exact HXK.out)
        clear hown12 hgrow12 hb12 hck
        go_wp2
        go_roundw
        case rel => exact ⟨k + 1, by omega, by go_num, HEND.out.1, HEND.out.2⟩
        case measure => simp [intOf]; omega
    · obtain rfl : k = xs.length := by omega
      clear hb
      go_wp2
      go_ret
      exact ⟨_, _, _, rfl, by rw [← HALL.out, ← HZS.out]; exact HO.out, HB.out⟩


end Go.Proofs.Ytohjfcfcopbmoaa

/- Walks: what the bags of a link have in common (meetAt), of the program. -/
namespace Go.Proofs.Ytohjfcfcopbmoaa
open Go.RowKit Go.Shelf

/-- What the bags of a link have in common. -/
def meetL (B : List (List Int)) (ks : List Int) : List Int := (nthR B (nth ks 0).toNat).filter (fun z => hasB (nthR B (nth ks 1).toNat) z)

set_option maxHeartbeats 2000000 in
set_option maxRecDepth 100000 in
theorem meetAt_any (v u : Value) (B : List (List Int)) (ks : List Int) (w : World) (h : GridAt w v B) (h' : RowAt w u ks) (he : EdgeP ks (B.length : Int)) (hs : ∀ i, i < B.length → (nthR B i).length ≤ 2000000) :
    Calls Try.prog 49 #[v, u] w (GaveRow w (meetL B ks)) := by
  obtain ⟨e1, e2, e3, e4⟩ := he
  obtain ⟨x, hx⟩ : ∃ x : Nat, nth ks 0 = (x : Int) := ⟨(nth ks 0).toNat, by omega⟩
  obtain ⟨y, hy⟩ : ∃ y : Nat, nth ks 1 = (y : Int) := ⟨(nth ks 1).toNat, by omega⟩
  have HE : Hid (meetL B ks = (nthR B x).filter (fun z => hasB (bagR (nthR B y)) z)) := by
    show _ = _
    unfold meetL
    rw [hx, hy, Int.toNat_natCast, Int.toNat_natCast]
    congr 1
    funext z
    rw [bagR_has]
  rw [hx] at e2 e3
  rw [hy] at e3 e4
  have hxB : x < B.length := by omega
  have hyB : y < B.length := by omega
  obtain ⟨b, o, c, A, C, rfl, l1, l2, hc⟩ := h.pos (by omega)
  obtain ⟨bl, ol, cl, rfl, m1, m2, hk⟩ := h'.pos (by omega)
  have hk0 := hk 0 (by omega)
  have hk1 := hk 1 (by omega)
  rw [hx, Nat.add_zero] at hk0
  rw [hy] at hk1
  rw [e1]
  obtain ⟨hcx, hrx⟩ := hc x hxB
  obtain ⟨hcy, hry⟩ := hc y hyB
  have hlx := hs x hxB
  have hly := hs y hyB
  obtain ⟨X, hX⟩ : ∃ X, X = nthR B x := ⟨_, rfl⟩
  obtain ⟨Y, hY⟩ : ∃ Y, Y = nthR B y := ⟨_, rfl⟩
  rw [← hX] at hcx hrx hlx HE
  rw [← hY] at hcy hry hly HE
  obtain ⟨ax, hax⟩ : ∃ ax, ax = A x := ⟨_, rfl⟩
  obtain ⟨cx, hcxx⟩ : ∃ cx, cx = C x := ⟨_, rfl⟩
  obtain ⟨ay, hay⟩ : ∃ ay, ay = A y := ⟨_, rfl⟩
  obtain ⟨cy, hcyy⟩ : ∃ cy, cy = C y := ⟨_, rfl⟩
  rw [← hax, ← hcxx] at hcx hrx
  rw [← hay, ← hcyy] at hcy hry
  have KS : Hid (∀ W, Below w.heap.size w W → W.cell? ⟨bl, ol, none⟩ = some (.int .i64 (x : Int)) ∧ W.cell? ⟨bl, ol + 1, none⟩ = some (.int .i64 (y : Int)) ∧ W.cell? ⟨b, o + x, none⟩ = some (.slice ax X.length cx) ∧ W.cell? ⟨b, o + y, none⟩ = some (.slice ay Y.length cy)) :=
    fun W hb => ⟨cell_keep hb hk0, cell_keep hb hk1, cell_keep hb hcx, cell_keep hb hcy⟩
  have HRX : Hid (∀ W, Below w.heap.size w W → RowAt W (.slice ax X.length cx) X) := fun W hb => hrx.keep hb
  have HRY : Hid (∀ W, Below w.heap.size w W → RowAt W (.slice ay Y.length cy) Y) := fun W hb => hry.keep hb
  have hBL := bagR_len Y
  have hxI : (x : Int) < (B.length : Int) := by omega
  have hyI : (y : Int) < (B.length : Int) := by omega
  have ks' := KS.out w (Below.refl _ _)
  clear h h' hc hk hk0 hk1 hcx hcy hrx hry hX hY hax hcxx hay hcyy hx hy hs e1
  go_enter Try.func49, Try.ntmps49
  go_wp2
  go_region_held3 (fun wx => wx.cell? ⟨bl, ol, none⟩ = some (.int .i64 (x : Int)) ∧ wx.cell? ⟨bl, ol + 1, none⟩ = some (.int .i64 (y : Int)) ∧ wx.cell? ⟨b, o + x, none⟩ = some (.slice ax X.length cx) ∧ wx.cell? ⟨b, o + y, none⟩ = some (.slice ay Y.length cy)) (first | exact ks' | with_reducible exact KS.out _ (Below.refl _ _).drew | with_reducible exact KS.out _ HB1.out | with_reducible exact KS.out _ HB2.out)
    (first
      | (go_at_call 68; refine (bagOf_any _ Y _ (HRY.out _ (by first | with_reducible exact (Below.refl _ _).drew | with_reducible exact Below.refl _ _)) hly).mono ?_; rintro e w1 ⟨n1, a1, c1, rfl, ho1, hb1⟩; obtain ⟨a1', c1', e1⟩ := ho1.row.slice; simp only [Value.slice.injEq] at e1; obtain ⟨rfl, rfl, rfl⟩ := e1; have HB1 : Hid (Below w.heap.size w w1) := (Below.refl _ _).drew.trans hb1; have HO1 := Lib.hid ho1.row; clear ho1 hb1)
      | (go_at_call 69; refine (bagMeet_any _ _ X (bagR Y) _ (HRX.out _ HB1.out) HO1.out hlx (by omega) (bagR_rise Y)).mono ?_; rintro e w2 ⟨n2, a2, c2, rfl, ho2, hb2⟩; have HB2 : Hid (Below w.heap.size w w2) := HB1.out.trans (hb2.mono HB1.out.size); have HO2 : Hid (OwnRow 2 w2 w.heap.size (.slice a2 n2 c2) (meetL B ks)) := (by rw [HE.out]; exact ho2.mono HB1.out.size); clear ho2 hb2))
  all_goals (
    go_wp2
    go_ret
    exact ⟨_, _, _, rfl, HO2.out, HB2.out⟩)

end Go.Proofs.Ytohjfcfcopbmoaa
