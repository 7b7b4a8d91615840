/- Walks: the least way down the rings. -/
import Derived.Test.YtjbfoiolcpigfaaDoorQPO1
import Derived.Test.YtjbfoiolcpigfaaDoorPO3
import Derived.Test.YtjbfoiolcpigfaaDoorZ4

namespace Go.Proofs.YtjbfoiolcpigfaaDoor
open Go.RowKit Go.Shelf
attribute [local go_sem] Oper.semAt_some

section
variable {F : Fence} {n : Nat} {P : Program} {ops : Array Oper} {Q : Exit → Act → World → Prop}
theorem anyIn_three {fuel : Nat} {listed : Array Bool} {a : Act} {w : World} (i j k : Nat) (hr : Region.ready .any ops listed = [i, j, k]) (h : wpOpIn F n P ops Q i (wpAnyIn F n P .any ops Q fuel (listed.setIfInBounds i true)) a w)
    (h' : wpOpIn F n P ops Q j (wpAnyIn F n P .any ops Q fuel (listed.setIfInBounds j true)) a w) (h'' : wpOpIn F n P ops Q k (wpAnyIn F n P .any ops Q fuel (listed.setIfInBounds k true)) a w) : wpAnyIn F n P .any ops Q (fuel + 1) listed a w := by
  refine ⟨fun h0 => (by rw [hr] at h0; cases h0), fun m hm => ?_⟩
  rw [hr] at hm
  simp at hm
  rcases hm with rfl | rfl | rfl
  · exact h
  · exact h'
  · exact h''
theorem anyIn_four {fuel : Nat} {listed : Array Bool} {a : Act} {w : World} (i j k q : Nat) (hr : Region.ready .any ops listed = [i, j, k, q]) (h : wpOpIn F n P ops Q i (wpAnyIn F n P .any ops Q fuel (listed.setIfInBounds i true)) a w)
    (h' : wpOpIn F n P ops Q j (wpAnyIn F n P .any ops Q fuel (listed.setIfInBounds j true)) a w) (h'' : wpOpIn F n P ops Q k (wpAnyIn F n P .any ops Q fuel (listed.setIfInBounds k true)) a w)
    (h3 : wpOpIn F n P ops Q q (wpAnyIn F n P .any ops Q fuel (listed.setIfInBounds q true)) a w) : wpAnyIn F n P .any ops Q (fuel + 1) listed a w := by
  refine ⟨fun h0 => (by rw [hr] at h0; cases h0), fun m hm => ?_⟩
  rw [hr] at hm
  simp at hm
  rcases hm with rfl | rfl | rfl | rfl
  · exact h
  · exact h'
  · exact h''
  · exact h3
end

/-- The way down, half done. -/
def DI (w : World) (bn : Nat) (M R : Nat → Nat) (d u i : Nat) (W : World) : Prop :=
  (∃ sv, W.heap[w.heap.size + 4]? = some (.cells #[sv] 120 (0, 0))) ∧ W.heap[w.heap.size]? = some (.cells #[.pointer (some ⟨bn, 0, none⟩)] 113 (0, 0)) ∧ W.heap[w.heap.size + 1]? = some (.cells #[.int .i64 (curD M R d u i : Int)] 2 (0, 0)) ∧
  (∃ val, W.heap[w.heap.size + 3]? = some (.cells #[val] 36 (0, 0)) ∧ OwnRow 2 W (w.heap.size + 2) val (wayD M R d u i)) ∧ Below w.heap.size w W
theorem DI.grow {w : World} {bn : Nat} {M R : Nat → Nat} {d u i : Nat} {A B : World} (h : DI w bn M R d u i A) (hb : Below A.heap.size A B) : DI w bn M R d u i B := by
  obtain ⟨⟨sv, hsv⟩, h1, h2, ⟨val, h3, h4⟩, h5⟩ := h
  have hk : ∀ k o, A.heap[k]? = some o → B.heap[k]? = some o := fun k o hh => (hb.block k (Array.getElem?_eq_some_iff.1 hh).1).trans hh
  exact ⟨⟨sv, hk _ _ hsv⟩, hk _ _ h1, hk _ _ h2, ⟨val, hk _ _ h3, h4.keep hb⟩, h5.trans (hb.mono h5.size)⟩
theorem DI.put {w : World} {bn : Nat} {M R : Nat → Nat} {d u i : Nat} {A : World} {l : Nat} {r : Loop} (h : DI w bn M R d u i A) (hl : w.heap.size ≤ l) (ho : A.heap[l]? = some (.loop r)) (o : Obj) : DI w bn M R d u i (A.putObj l o) := by
  obtain ⟨⟨sv, hsv⟩, h1, h2, ⟨val, h3, h4⟩, h5⟩ := h
  have hk : ∀ (k : Nat) (cs : Array Value) (U : TypeId) (fr : Nat × Nat), A.heap[k]? = some (Obj.cells cs U fr) → (A.putObj l o).heap[k]? = some (Obj.cells cs U fr) := fun k cs U fr hh => by
    refine (World.putObj_heap_other (fun e => ?_)).trans hh
    subst e; rw [ho] at hh; cases hh
  exact ⟨⟨sv, hk _ _ _ _ hsv⟩, hk _ _ _ _ h1, hk _ _ _ _ h2, ⟨val, hk _ _ _ _ h3, h4.kept (fun k cs fr => hk k cs _ fr)⟩, h5.trans (below_put A l o hl (Array.getElem?_eq_some_iff.1 ho).1)⟩

set_option maxHeartbeats 8000000 in
set_option maxRecDepth 100000 in
theorem descent_any (bn n gb cap d u : Nat) (M R : Nat → Nat) (w : World) (h : NetAt w bn n M) (hT : TabAt w) (hM : ∀ i, M i < 65536) (hR : ∀ i, R i < 65536) (hd : d ≤ 100) (hrg : RingsAt w gb cap d R) (hgb : gb < w.heap.size)
    (hc : ∀ i, i ≤ d → curD M R d u i < 16) (hne : ∀ i, i < d → M (curD M R d u i) &&& R (d - 1 - i) ≠ 0) :
    Calls Tryd.prog 131 #[.pointer (some ⟨bn, 0, none⟩), .int .i64 (u : Int), .slice (some ⟨gb, 0, none⟩) d cap] w (GaveRow w (wayD M R d u d)) := by
  obtain ⟨i0, hi, hz0, hz1, hz2⟩ := info_parts Tryd.infoI
  have hbn : bn < w.heap.size := block_lt_of_cell h.1
  have hu16 : u < 16 := hc 0 (Nat.zero_le _)
  refine calls_marks Tryd.func131 rfl ?_
  simp only [Tryd.ntmps131, List.size_toArray, List.length_cons, List.length_nil, Nat.reduceAdd, Nat.reduceSub, Array.replicate_succ, Array.replicate_zero, List.push_toArray, List.append_toArray, List.nil_append, List.cons_append]
  go_wp2_with (go_at_call 143; refine (backward_any _ _ _ _).mono ?_; rintro e w' ⟨rfl, rfl⟩)
  obtain ⟨w5, hw5⟩ : ∃ w5, ((((w.alloc (.cells #[.pointer (some ⟨bn, 0, none⟩)] 113)).alloc (.cells #[.int .i64 (u : Int)] 2)).alloc (.cells #[.int .i64 (u : Int)] 2)).alloc (.cells #[.slice (some ⟨w.heap.size + 1 + 1, 0, none⟩) 1 1] 36)).alloc (.cells #[.slice (some ⟨gb, 0, none⟩) d cap] 120) = w5 := ⟨_, rfl⟩
  have hb5 : Below w.heap.size w w5 := by rw [← hw5]; exact (((((Below.refl _ _).alloc (Nat.le_refl _) _).alloc (by simp) _).alloc (by simp; omega) _).alloc (by simp; omega) _).alloc (by simp; omega) _
  have hs5 : w5.heap.size = w.heap.size + 5 := by rw [← hw5]; simp
  have H0 : Hid (DI w bn M R d u 0 w5) := by
    refine ⟨⟨.slice (some ⟨gb, 0, none⟩) d cap, ?_⟩, ?_, ?_, ⟨.slice (some ⟨w.heap.size + 1 + 1, 0, none⟩) 1 1, ?_, ?_⟩, hb5⟩
    · rw [← hw5]
      have h1 := World.alloc_heap_new ((((w.alloc (.cells #[.pointer (some ⟨bn, 0, none⟩)] 113)).alloc (.cells #[.int .i64 (u : Int)] 2)).alloc (.cells #[.int .i64 (u : Int)] 2)).alloc (.cells #[.slice (some ⟨w.heap.size + 1 + 1, 0, none⟩) 1 1] 36)) (.cells #[.slice (some ⟨gb, 0, none⟩) d cap] 120)
      simp only [World.size_alloc] at h1
      exact h1
    · rw [← hw5]
      exact ((((Below.refl (w.heap.size + 1) _).alloc (by simp) _).alloc (by simp) _).alloc (by simp <;> omega) _ |>.alloc (by simp <;> omega) _).block _ (by omega) |>.trans (World.alloc_heap_new w _)
    · rw [← hw5]
      have h1 := World.alloc_heap_new (w.alloc (.cells #[.pointer (some ⟨bn, 0, none⟩)] 113)) (.cells #[.int .i64 (u : Int)] 2)
      rw [World.size_alloc] at h1
      exact (((Below.refl (w.heap.size + 2) _).alloc (by simp) _).alloc (by simp) _ |>.alloc (by simp <;> omega) _).block _ (by omega) |>.trans h1
    · rw [← hw5]
      have h1 := World.alloc_heap_new (((w.alloc (.cells #[.pointer (some ⟨bn, 0, none⟩)] 113)).alloc (.cells #[.int .i64 (u : Int)] 2)).alloc (.cells #[.int .i64 (u : Int)] 2)) (.cells #[.slice (some ⟨w.heap.size + 1 + 1, 0, none⟩) 1 1] 36)
      simp only [World.size_alloc] at h1
      exact (Below.heap_alloc _ _ _ (by simp)).trans h1
    · have h1 := World.ownsRow_lit ((w.alloc (.cells #[.pointer (some ⟨bn, 0, none⟩)] 113)).alloc (.cells #[.int .i64 (u : Int)] 2)) #[.int .i64 (u : Int)] (e := 2) (size := 1) 1 (base := w.heap.size + 2) (by simp) (by unfold maxLen; omega) rfl
      simp only [World.size_alloc] at h1
      have h2 : OwnRow 2 _ (w.heap.size + 2) (.slice (some ⟨w.heap.size + 1 + 1, 0, none⟩) 1 1) [(u : Int)] := OwnRow.of_ownsRow (n := 1) (xs := [(u : Int)]) h1 (by simp; unfold maxLen; omega) (fun x hx => by simp at hx; subst hx; unfold I64; omega)
      rw [wayD_zero]
      refine h2.keep ?_
      rw [← hw5]
      exact ((Below.refl _ _).alloc (Nat.le_refl _) _).alloc (by simp) _
  have HBI : Hid (BackIn w5 (w.heap.size + 4) gb cap d R) := by
    refine ⟨?_, hrg.keep hb5⟩
    subst hw5; go_simp
  have HSQ := Lib.hid (backward1_seq 8 (w.heap.size + 4) gb cap d R w5 (by omega) HBI.out)
  have HNK : Hid (∀ W, Below w.heap.size w W → NetAt W bn n M ∧ TabAt W) := fun W hW => ⟨h.keep hW, hT.keep hW⟩
  have HC := Lib.hid hc
  have HNE := Lib.hid hne
  simp only [Nat.add_assoc, Nat.reduceAdd] at *
  rw [hw5]
  clear hw5 HBI hb5 h hT hrg hc hne
  have hmix : Tryd.prog.follows .mixedOrders = true := by kernel_rfl
  refine (wpIn_wide (n := 9)).1 ?_
  refine wpIn_rangeFunc_pre rfl (by omega) (gf := 149) (lb := #[.pointer (some ⟨w.heap.size + 4, 0, none⟩)]) rfl trivial (enters_of Tryd.func149 (by kernel_rfl) rfl)
    HSQ.out (fun h k => h.trans k) (fun W o => KeepsBut.putObj W _ o ⟨by omega, by omega⟩) (fun _ => rfl)
    (fun pre W => DI w bn M R d u pre.length W)
    (fun _ _ _ => False)
    (fun _ _ _ hs hb => hs.grow hb)
    (fun _ _ _ o hs hl => hs.put (by omega) hl o)
    (fun _ _ _ _ _ h _ => h)
    H0.out
    ?a1 ?assign ?body ?done ?stop
  case assign =>
    intro l x W K hK
    simp only [encB]
    gi_wp2
    exact hK
  case body =>
    rintro l pre x W ⟨⟨sv, hsv⟩, h1, h2, ⟨val, h3, h4⟩, hb⟩ hsz ⟨oD, hoD⟩ ⟨oL, hoL⟩ ⟨hlen, rfl⟩
    obtain ⟨i, hi'⟩ : ∃ i, pre.length = i := ⟨_, rfl⟩
    have HCS : Hid (curD M R d u (i + 1) = leastM (M (curD M R d u i) &&& R (d - 1 - i))) := rfl
    have HWS := Lib.hid (wayD_succ M R d u i)
    have HC1 := HC.out (i + 1) (by omega)
    have HPL : Hid ((pre ++ [d - 1 - i]).length = i + 1) := by show _ = _; simp [hi']
    rw [hi'] at h2 h4 hlen ⊢
    have hcur := HC.out i (by omega)
    have hne' := HNE.out i (by omega)
    obtain ⟨c, hcc⟩ : ∃ c, c = curD M R d u i := ⟨_, rfl⟩
    obtain ⟨q, hqq⟩ : ∃ q, q = d - 1 - i := ⟨_, rfl⟩
    rw [← hcc] at h2 hcur hne' HCS
    rw [← hqq] at hne' HCS HPL ⊢
    have hMc := hM c
    have hRq := hR q
    have hand : M c &&& R q < 65536 := Nat.lt_of_le_of_lt Nat.and_le_left hMc
    have hbits : bits BinOp.and IntKind.u32 (M c : Int) (R q : Int) = ((M c &&& R q : Nat) : Int) := u32_and_nat _ _ (by omega) (by omega)
    obtain ⟨hNet, hTab⟩ := HNK.out W hb
    have hm := hNet.2 c hcur
    have hbt : W.cell? ⟨w.heap.size, 0, none⟩ = some (.pointer (some ⟨bn, 0, none⟩)) := by rw [cell_of_row W _ 0 _ _ _ h1]; rfl
    have hbu : W.cell? ⟨w.heap.size + 1, 0, none⟩ = some (.int .i64 (c : Int)) := by rw [cell_of_row W _ 0 _ _ _ h2]; rfl
    have hfu : W.frozen? ⟨w.heap.size + 1, 0, none⟩ = false := frozen_of_row W _ 0 _ _ h2
    have hc0 : (0 : Int) ≤ (c : Int) := by omega
    have hc16 : (c : Int) < 16 := by omega
    have hwl : w.heap.size + 3 < W.heap.size := (Array.getElem?_eq_some_iff.1 h3).1
    have HSV := Lib.hid hsv
    have H1 := Lib.hid h1
    have H2 := Lib.hid h2
    have H3 := Lib.hid h3
    have H4 := Lib.hid h4
    have HB := Lib.hid hb
    have HTB := Lib.hid hTab
    have HOD := Lib.hid hoD
    have HOL := Lib.hid hoL
    clear hsv h1 h2 h3 h4 hb hTab hNet hoD hoL HC HNE HSQ H0 hcc hqq
    gi_wp2_with fail
    refine wpIn_region_any hmix ?_
    refine lead (G := ?G) ?pre ?tail
    case pre =>
      intro g
      refine anyIn_three 0 1 6 (by kernel_rfl) ?_ ?_ ?_
      · refine opIn_at rfl rfl ?_
        simp [go_sem, Oper.wpIn, Oper.about, Oper.uponIn, hbt]
        refine anyIn_three 1 2 6 (by kernel_rfl) ?_ ?_ ?_
        · refine opIn_at rfl rfl ?_
          simp [go_sem, Oper.wpIn, Oper.about, Oper.uponIn, hbu]
          refine anyIn_two 2 6 (by kernel_rfl) ?_ ?_
          · refine opIn_at rfl rfl ?_
            simp [go_sem, Oper.wpIn, Oper.about, Oper.uponIn]
            refine anyIn_two 3 6 (by kernel_rfl) ?_ ?_
            · refine opIn_at rfl rfl ?_
              simp [go_sem, Oper.wpIn, Oper.about, Oper.uponIn]
              refine anyIn_two 4 6 (by kernel_rfl) ?_ ?_
              · refine opIn_at rfl rfl ?_
                simp [go_sem, Oper.wpIn, Oper.about, Oper.uponIn, hc16]
                refine anyIn_two 5 6 (by kernel_rfl) ?_ ?_
                · refine opIn_at rfl rfl ?_
                  simp [go_sem, Oper.wpIn, Oper.about, Oper.uponIn, hm]
                  refine anyIn_one 6 (by kernel_rfl) ?_
                  refine opIn_at rfl rfl ?_
                  simp [go_sem, Oper.wpIn, Oper.about, Oper.uponIn]
                  refine anyIn_one 7 (by kernel_rfl) ?_
                  refine opIn_at rfl rfl ?_
                  simp [go_sem, Oper.wpIn, Oper.about, Oper.uponIn, hbits]
                  exact g
                · refine opIn_at rfl rfl ?_
                  simp [go_sem, Oper.wpIn, Oper.about, Oper.uponIn]
                  refine anyIn_one 5 (by kernel_rfl) ?_
                  refine opIn_at rfl rfl ?_
                  simp [go_sem, Oper.wpIn, Oper.about, Oper.uponIn, hm]
                  refine anyIn_one 7 (by kernel_rfl) ?_
                  refine opIn_at rfl rfl ?_
                  simp [go_sem, Oper.wpIn, Oper.about, Oper.uponIn, hbits]
                  exact g
              · refine opIn_at rfl rfl ?_
                simp [go_sem, Oper.wpIn, Oper.about, Oper.uponIn]
                refine anyIn_one 4 (by kernel_rfl) ?_
                refine opIn_at rfl rfl ?_
                simp [go_sem, Oper.wpIn, Oper.about, Oper.uponIn, hc16]
                refine anyIn_one 5 (by kernel_rfl) ?_
                refine opIn_at rfl rfl ?_
                simp [go_sem, Oper.wpIn, Oper.about, Oper.uponIn, hm]
                refine anyIn_one 7 (by kernel_rfl) ?_
                refine opIn_at rfl rfl ?_
                simp [go_sem, Oper.wpIn, Oper.about, Oper.uponIn, hbits]
                exact g
            · refine opIn_at rfl rfl ?_
              simp [go_sem, Oper.wpIn, Oper.about, Oper.uponIn]
              refine anyIn_one 3 (by kernel_rfl) ?_
              refine opIn_at rfl rfl ?_
              simp [go_sem, Oper.wpIn, Oper.about, Oper.uponIn]
              refine anyIn_one 4 (by kernel_rfl) ?_
              refine opIn_at rfl rfl ?_
              simp [go_sem, Oper.wpIn, Oper.about, Oper.uponIn, hc16]
              refine anyIn_one 5 (by kernel_rfl) ?_
              refine opIn_at rfl rfl ?_
              simp [go_sem, Oper.wpIn, Oper.about, Oper.uponIn, hm]
              refine anyIn_one 7 (by kernel_rfl) ?_
              refine opIn_at rfl rfl ?_
              simp [go_sem, Oper.wpIn, Oper.about, Oper.uponIn, hbits]
              exact g
          · refine opIn_at rfl rfl ?_
            simp [go_sem, Oper.wpIn, Oper.about, Oper.uponIn]
            refine anyIn_one 2 (by kernel_rfl) ?_
            refine opIn_at rfl rfl ?_
            simp [go_sem, Oper.wpIn, Oper.about, Oper.uponIn]
            refine anyIn_one 3 (by kernel_rfl) ?_
            refine opIn_at rfl rfl ?_
            simp [go_sem, Oper.wpIn, Oper.about, Oper.uponIn]
            refine anyIn_one 4 (by kernel_rfl) ?_
            refine opIn_at rfl rfl ?_
            simp [go_sem, Oper.wpIn, Oper.about, Oper.uponIn, hc16]
            refine anyIn_one 5 (by kernel_rfl) ?_
            refine opIn_at rfl rfl ?_
            simp [go_sem, Oper.wpIn, Oper.about, Oper.uponIn, hm]
            refine anyIn_one 7 (by kernel_rfl) ?_
            refine opIn_at rfl rfl ?_
            simp [go_sem, Oper.wpIn, Oper.about, Oper.uponIn, hbits]
            exact g
        · refine opIn_at rfl rfl ?_
          simp [go_sem, Oper.wpIn, Oper.about, Oper.uponIn]
          refine anyIn_three 1 3 6 (by kernel_rfl) ?_ ?_ ?_
          · refine opIn_at rfl rfl ?_
            simp [go_sem, Oper.wpIn, Oper.about, Oper.uponIn, hbu]
            refine anyIn_two 3 6 (by kernel_rfl) ?_ ?_
            · refine opIn_at rfl rfl ?_
              simp [go_sem, Oper.wpIn, Oper.about, Oper.uponIn]
              refine anyIn_two 4 6 (by kernel_rfl) ?_ ?_
              · refine opIn_at rfl rfl ?_
                simp [go_sem, Oper.wpIn, Oper.about, Oper.uponIn, hc16]
                refine anyIn_two 5 6 (by kernel_rfl) ?_ ?_
                · refine opIn_at rfl rfl ?_
                  simp [go_sem, Oper.wpIn, Oper.about, Oper.uponIn, hm]
                  refine anyIn_one 6 (by kernel_rfl) ?_
                  refine opIn_at rfl rfl ?_
                  simp [go_sem, Oper.wpIn, Oper.about, Oper.uponIn]
                  refine anyIn_one 7 (by kernel_rfl) ?_
                  refine opIn_at rfl rfl ?_
                  simp [go_sem, Oper.wpIn, Oper.about, Oper.uponIn, hbits]
                  exact g
                · refine opIn_at rfl rfl ?_
                  simp [go_sem, Oper.wpIn, Oper.about, Oper.uponIn]
                  refine anyIn_one 5 (by kernel_rfl) ?_
                  refine opIn_at rfl rfl ?_
                  simp [go_sem, Oper.wpIn, Oper.about, Oper.uponIn, hm]
                  refine anyIn_one 7 (by kernel_rfl) ?_
                  refine opIn_at rfl rfl ?_
                  simp [go_sem, Oper.wpIn, Oper.about, Oper.uponIn, hbits]
                  exact g
              · refine opIn_at rfl rfl ?_
                simp [go_sem, Oper.wpIn, Oper.about, Oper.uponIn]
                refine anyIn_one 4 (by kernel_rfl) ?_
                refine opIn_at rfl rfl ?_
                simp [go_sem, Oper.wpIn, Oper.about, Oper.uponIn, hc16]
                refine anyIn_one 5 (by kernel_rfl) ?_
                refine opIn_at rfl rfl ?_
                simp [go_sem, Oper.wpIn, Oper.about, Oper.uponIn, hm]
                refine anyIn_one 7 (by kernel_rfl) ?_
                refine opIn_at rfl rfl ?_
                simp [go_sem, Oper.wpIn, Oper.about, Oper.uponIn, hbits]
                exact g
            · refine opIn_at rfl rfl ?_
              simp [go_sem, Oper.wpIn, Oper.about, Oper.uponIn]
              refine anyIn_one 3 (by kernel_rfl) ?_
              refine opIn_at rfl rfl ?_
              simp [go_sem, Oper.wpIn, Oper.about, Oper.uponIn]
              refine anyIn_one 4 (by kernel_rfl) ?_
              refine opIn_at rfl rfl ?_
              simp [go_sem, Oper.wpIn, Oper.about, Oper.uponIn, hc16]
              refine anyIn_one 5 (by kernel_rfl) ?_
              refine opIn_at rfl rfl ?_
              simp [go_sem, Oper.wpIn, Oper.about, Oper.uponIn, hm]
              refine anyIn_one 7 (by kernel_rfl) ?_
              refine opIn_at rfl rfl ?_
              simp [go_sem, Oper.wpIn, Oper.about, Oper.uponIn, hbits]
              exact g
          · refine opIn_at rfl rfl ?_
            simp [go_sem, Oper.wpIn, Oper.about, Oper.uponIn]
            refine anyIn_two 1 6 (by kernel_rfl) ?_ ?_
            · refine opIn_at rfl rfl ?_
              simp [go_sem, Oper.wpIn, Oper.about, Oper.uponIn, hbu]
              refine anyIn_two 4 6 (by kernel_rfl) ?_ ?_
              · refine opIn_at rfl rfl ?_
                simp [go_sem, Oper.wpIn, Oper.about, Oper.uponIn, hc16]
                refine anyIn_two 5 6 (by kernel_rfl) ?_ ?_
                · refine opIn_at rfl rfl ?_
                  simp [go_sem, Oper.wpIn, Oper.about, Oper.uponIn, hm]
                  refine anyIn_one 6 (by kernel_rfl) ?_
                  refine opIn_at rfl rfl ?_
                  simp [go_sem, Oper.wpIn, Oper.about, Oper.uponIn]
                  refine anyIn_one 7 (by kernel_rfl) ?_
                  refine opIn_at rfl rfl ?_
                  simp [go_sem, Oper.wpIn, Oper.about, Oper.uponIn, hbits]
                  exact g
                · refine opIn_at rfl rfl ?_
                  simp [go_sem, Oper.wpIn, Oper.about, Oper.uponIn]
                  refine anyIn_one 5 (by kernel_rfl) ?_
                  refine opIn_at rfl rfl ?_
                  simp [go_sem, Oper.wpIn, Oper.about, Oper.uponIn, hm]
                  refine anyIn_one 7 (by kernel_rfl) ?_
                  refine opIn_at rfl rfl ?_
                  simp [go_sem, Oper.wpIn, Oper.about, Oper.uponIn, hbits]
                  exact g
              · refine opIn_at rfl rfl ?_
                simp [go_sem, Oper.wpIn, Oper.about, Oper.uponIn]
                refine anyIn_one 4 (by kernel_rfl) ?_
                refine opIn_at rfl rfl ?_
                simp [go_sem, Oper.wpIn, Oper.about, Oper.uponIn, hc16]
                refine anyIn_one 5 (by kernel_rfl) ?_
                refine opIn_at rfl rfl ?_
                simp [go_sem, Oper.wpIn, Oper.about, Oper.uponIn, hm]
                refine anyIn_one 7 (by kernel_rfl) ?_
                refine opIn_at rfl rfl ?_
                simp [go_sem, Oper.wpIn, Oper.about, Oper.uponIn, hbits]
                exact g
            · refine opIn_at rfl rfl ?_
              simp [go_sem, Oper.wpIn, Oper.about, Oper.uponIn]
              refine anyIn_one 1 (by kernel_rfl) ?_
              refine opIn_at rfl rfl ?_
              simp [go_sem, Oper.wpIn, Oper.about, Oper.uponIn, hbu]
              refine anyIn_one 4 (by kernel_rfl) ?_
              refine opIn_at rfl rfl ?_
              simp [go_sem, Oper.wpIn, Oper.about, Oper.uponIn, hc16]
              refine anyIn_one 5 (by kernel_rfl) ?_
              refine opIn_at rfl rfl ?_
              simp [go_sem, Oper.wpIn, Oper.about, Oper.uponIn, hm]
              refine anyIn_one 7 (by kernel_rfl) ?_
              refine opIn_at rfl rfl ?_
              simp [go_sem, Oper.wpIn, Oper.about, Oper.uponIn, hbits]
              exact g
          · refine opIn_at rfl rfl ?_
            simp [go_sem, Oper.wpIn, Oper.about, Oper.uponIn]
            refine anyIn_two 1 3 (by kernel_rfl) ?_ ?_
            · refine opIn_at rfl rfl ?_
              simp [go_sem, Oper.wpIn, Oper.about, Oper.uponIn, hbu]
              refine anyIn_one 3 (by kernel_rfl) ?_
              refine opIn_at rfl rfl ?_
              simp [go_sem, Oper.wpIn, Oper.about, Oper.uponIn]
              refine anyIn_one 4 (by kernel_rfl) ?_
              refine opIn_at rfl rfl ?_
              simp [go_sem, Oper.wpIn, Oper.about, Oper.uponIn, hc16]
              refine anyIn_one 5 (by kernel_rfl) ?_
              refine opIn_at rfl rfl ?_
              simp [go_sem, Oper.wpIn, Oper.about, Oper.uponIn, hm]
              refine anyIn_one 7 (by kernel_rfl) ?_
              refine opIn_at rfl rfl ?_
              simp [go_sem, Oper.wpIn, Oper.about, Oper.uponIn, hbits]
              exact g
            · refine opIn_at rfl rfl ?_
              simp [go_sem, Oper.wpIn, Oper.about, Oper.uponIn]
              refine anyIn_one 1 (by kernel_rfl) ?_
              refine opIn_at rfl rfl ?_
              simp [go_sem, Oper.wpIn, Oper.about, Oper.uponIn, hbu]
              refine anyIn_one 4 (by kernel_rfl) ?_
              refine opIn_at rfl rfl ?_
              simp [go_sem, Oper.wpIn, Oper.about, Oper.uponIn, hc16]
              refine anyIn_one 5 (by kernel_rfl) ?_
              refine opIn_at rfl rfl ?_
              simp [go_sem, Oper.wpIn, Oper.about, Oper.uponIn, hm]
              refine anyIn_one 7 (by kernel_rfl) ?_
              refine opIn_at rfl rfl ?_
              simp [go_sem, Oper.wpIn, Oper.about, Oper.uponIn, hbits]
              exact g
        · refine opIn_at rfl rfl ?_
          simp [go_sem, Oper.wpIn, Oper.about, Oper.uponIn]
          refine anyIn_two 1 2 (by kernel_rfl) ?_ ?_
          · refine opIn_at rfl rfl ?_
            simp [go_sem, Oper.wpIn, Oper.about, Oper.uponIn, hbu]
            refine anyIn_one 2 (by kernel_rfl) ?_
            refine opIn_at rfl rfl ?_
            simp [go_sem, Oper.wpIn, Oper.about, Oper.uponIn]
            refine anyIn_one 3 (by kernel_rfl) ?_
            refine opIn_at rfl rfl ?_
            simp [go_sem, Oper.wpIn, Oper.about, Oper.uponIn]
            refine anyIn_one 4 (by kernel_rfl) ?_
            refine opIn_at rfl rfl ?_
            simp [go_sem, Oper.wpIn, Oper.about, Oper.uponIn, hc16]
            refine anyIn_one 5 (by kernel_rfl) ?_
            refine opIn_at rfl rfl ?_
            simp [go_sem, Oper.wpIn, Oper.about, Oper.uponIn, hm]
            refine anyIn_one 7 (by kernel_rfl) ?_
            refine opIn_at rfl rfl ?_
            simp [go_sem, Oper.wpIn, Oper.about, Oper.uponIn, hbits]
            exact g
          · refine opIn_at rfl rfl ?_
            simp [go_sem, Oper.wpIn, Oper.about, Oper.uponIn]
            refine anyIn_two 1 3 (by kernel_rfl) ?_ ?_
            · refine opIn_at rfl rfl ?_
              simp [go_sem, Oper.wpIn, Oper.about, Oper.uponIn, hbu]
              refine anyIn_one 3 (by kernel_rfl) ?_
              refine opIn_at rfl rfl ?_
              simp [go_sem, Oper.wpIn, Oper.about, Oper.uponIn]
              refine anyIn_one 4 (by kernel_rfl) ?_
              refine opIn_at rfl rfl ?_
              simp [go_sem, Oper.wpIn, Oper.about, Oper.uponIn, hc16]
              refine anyIn_one 5 (by kernel_rfl) ?_
              refine opIn_at rfl rfl ?_
              simp [go_sem, Oper.wpIn, Oper.about, Oper.uponIn, hm]
              refine anyIn_one 7 (by kernel_rfl) ?_
              refine opIn_at rfl rfl ?_
              simp [go_sem, Oper.wpIn, Oper.about, Oper.uponIn, hbits]
              exact g
            · refine opIn_at rfl rfl ?_
              simp [go_sem, Oper.wpIn, Oper.about, Oper.uponIn]
              refine anyIn_one 1 (by kernel_rfl) ?_
              refine opIn_at rfl rfl ?_
              simp [go_sem, Oper.wpIn, Oper.about, Oper.uponIn, hbu]
              refine anyIn_one 4 (by kernel_rfl) ?_
              refine opIn_at rfl rfl ?_
              simp [go_sem, Oper.wpIn, Oper.about, Oper.uponIn, hc16]
              refine anyIn_one 5 (by kernel_rfl) ?_
              refine opIn_at rfl rfl ?_
              simp [go_sem, Oper.wpIn, Oper.about, Oper.uponIn, hm]
              refine anyIn_one 7 (by kernel_rfl) ?_
              refine opIn_at rfl rfl ?_
              simp [go_sem, Oper.wpIn, Oper.about, Oper.uponIn, hbits]
              exact g
      · refine opIn_at rfl rfl ?_
        simp [go_sem, Oper.wpIn, Oper.about, Oper.uponIn, hbu]
        refine anyIn_two 0 6 (by kernel_rfl) ?_ ?_
        · refine opIn_at rfl rfl ?_
          simp [go_sem, Oper.wpIn, Oper.about, Oper.uponIn, hbt]
          refine anyIn_two 2 6 (by kernel_rfl) ?_ ?_
          · refine opIn_at rfl rfl ?_
            simp [go_sem, Oper.wpIn, Oper.about, Oper.uponIn]
            refine anyIn_two 3 6 (by kernel_rfl) ?_ ?_
            · refine opIn_at rfl rfl ?_
              simp [go_sem, Oper.wpIn, Oper.about, Oper.uponIn]
              refine anyIn_two 4 6 (by kernel_rfl) ?_ ?_
              · refine opIn_at rfl rfl ?_
                simp [go_sem, Oper.wpIn, Oper.about, Oper.uponIn, hc16]
                refine anyIn_two 5 6 (by kernel_rfl) ?_ ?_
                · refine opIn_at rfl rfl ?_
                  simp [go_sem, Oper.wpIn, Oper.about, Oper.uponIn, hm]
                  refine anyIn_one 6 (by kernel_rfl) ?_
                  refine opIn_at rfl rfl ?_
                  simp [go_sem, Oper.wpIn, Oper.about, Oper.uponIn]
                  refine anyIn_one 7 (by kernel_rfl) ?_
                  refine opIn_at rfl rfl ?_
                  simp [go_sem, Oper.wpIn, Oper.about, Oper.uponIn, hbits]
                  exact g
                · refine opIn_at rfl rfl ?_
                  simp [go_sem, Oper.wpIn, Oper.about, Oper.uponIn]
                  refine anyIn_one 5 (by kernel_rfl) ?_
                  refine opIn_at rfl rfl ?_
                  simp [go_sem, Oper.wpIn, Oper.about, Oper.uponIn, hm]
                  refine anyIn_one 7 (by kernel_rfl) ?_
                  refine opIn_at rfl rfl ?_
                  simp [go_sem, Oper.wpIn, Oper.about, Oper.uponIn, hbits]
                  exact g
              · refine opIn_at rfl rfl ?_
                simp [go_sem, Oper.wpIn, Oper.about, Oper.uponIn]
                refine anyIn_one 4 (by kernel_rfl) ?_
                refine opIn_at rfl rfl ?_
                simp [go_sem, Oper.wpIn, Oper.about, Oper.uponIn, hc16]
                refine anyIn_one 5 (by kernel_rfl) ?_
                refine opIn_at rfl rfl ?_
                simp [go_sem, Oper.wpIn, Oper.about, Oper.uponIn, hm]
                refine anyIn_one 7 (by kernel_rfl) ?_
                refine opIn_at rfl rfl ?_
                simp [go_sem, Oper.wpIn, Oper.about, Oper.uponIn, hbits]
                exact g
            · refine opIn_at rfl rfl ?_
              simp [go_sem, Oper.wpIn, Oper.about, Oper.uponIn]
              refine anyIn_one 3 (by kernel_rfl) ?_
              refine opIn_at rfl rfl ?_
              simp [go_sem, Oper.wpIn, Oper.about, Oper.uponIn]
              refine anyIn_one 4 (by kernel_rfl) ?_
              refine opIn_at rfl rfl ?_
              simp [go_sem, Oper.wpIn, Oper.about, Oper.uponIn, hc16]
              refine anyIn_one 5 (by kernel_rfl) ?_
              refine opIn_at rfl rfl ?_
              simp [go_sem, Oper.wpIn, Oper.about, Oper.uponIn, hm]
              refine anyIn_one 7 (by kernel_rfl) ?_
              refine opIn_at rfl rfl ?_
              simp [go_sem, Oper.wpIn, Oper.about, Oper.uponIn, hbits]
              exact g
          · refine opIn_at rfl rfl ?_
            simp [go_sem, Oper.wpIn, Oper.about, Oper.uponIn]
            refine anyIn_one 2 (by kernel_rfl) ?_
            refine opIn_at rfl rfl ?_
            simp [go_sem, Oper.wpIn, Oper.about, Oper.uponIn]
            refine anyIn_one 3 (by kernel_rfl) ?_
            refine opIn_at rfl rfl ?_
            simp [go_sem, Oper.wpIn, Oper.about, Oper.uponIn]
            refine anyIn_one 4 (by kernel_rfl) ?_
            refine opIn_at rfl rfl ?_
            simp [go_sem, Oper.wpIn, Oper.about, Oper.uponIn, hc16]
            refine anyIn_one 5 (by kernel_rfl) ?_
            refine opIn_at rfl rfl ?_
            simp [go_sem, Oper.wpIn, Oper.about, Oper.uponIn, hm]
            refine anyIn_one 7 (by kernel_rfl) ?_
            refine opIn_at rfl rfl ?_
            simp [go_sem, Oper.wpIn, Oper.about, Oper.uponIn, hbits]
            exact g
        · refine opIn_at rfl rfl ?_
          simp [go_sem, Oper.wpIn, Oper.about, Oper.uponIn]
          refine anyIn_one 0 (by kernel_rfl) ?_
          refine opIn_at rfl rfl ?_
          simp [go_sem, Oper.wpIn, Oper.about, Oper.uponIn, hbt]
          refine anyIn_one 2 (by kernel_rfl) ?_
          refine opIn_at rfl rfl ?_
          simp [go_sem, Oper.wpIn, Oper.about, Oper.uponIn]
          refine anyIn_one 3 (by kernel_rfl) ?_
          refine opIn_at rfl rfl ?_
          simp [go_sem, Oper.wpIn, Oper.about, Oper.uponIn]
          refine anyIn_one 4 (by kernel_rfl) ?_
          refine opIn_at rfl rfl ?_
          simp [go_sem, Oper.wpIn, Oper.about, Oper.uponIn, hc16]
          refine anyIn_one 5 (by kernel_rfl) ?_
          refine opIn_at rfl rfl ?_
          simp [go_sem, Oper.wpIn, Oper.about, Oper.uponIn, hm]
          refine anyIn_one 7 (by kernel_rfl) ?_
          refine opIn_at rfl rfl ?_
          simp [go_sem, Oper.wpIn, Oper.about, Oper.uponIn, hbits]
          exact g
      · refine opIn_at rfl rfl ?_
        simp [go_sem, Oper.wpIn, Oper.about, Oper.uponIn]
        refine anyIn_two 0 1 (by kernel_rfl) ?_ ?_
        · refine opIn_at rfl rfl ?_
          simp [go_sem, Oper.wpIn, Oper.about, Oper.uponIn, hbt]
          refine anyIn_two 1 2 (by kernel_rfl) ?_ ?_
          · refine opIn_at rfl rfl ?_
            simp [go_sem, Oper.wpIn, Oper.about, Oper.uponIn, hbu]
            refine anyIn_one 2 (by kernel_rfl) ?_
            refine opIn_at rfl rfl ?_
            simp [go_sem, Oper.wpIn, Oper.about, Oper.uponIn]
            refine anyIn_one 3 (by kernel_rfl) ?_
            refine opIn_at rfl rfl ?_
            simp [go_sem, Oper.wpIn, Oper.about, Oper.uponIn]
            refine anyIn_one 4 (by kernel_rfl) ?_
            refine opIn_at rfl rfl ?_
            simp [go_sem, Oper.wpIn, Oper.about, Oper.uponIn, hc16]
            refine anyIn_one 5 (by kernel_rfl) ?_
            refine opIn_at rfl rfl ?_
            simp [go_sem, Oper.wpIn, Oper.about, Oper.uponIn, hm]
            refine anyIn_one 7 (by kernel_rfl) ?_
            refine opIn_at rfl rfl ?_
            simp [go_sem, Oper.wpIn, Oper.about, Oper.uponIn, hbits]
            exact g
          · refine opIn_at rfl rfl ?_
            simp [go_sem, Oper.wpIn, Oper.about, Oper.uponIn]
            refine anyIn_two 1 3 (by kernel_rfl) ?_ ?_
            · refine opIn_at rfl rfl ?_
              simp [go_sem, Oper.wpIn, Oper.about, Oper.uponIn, hbu]
              refine anyIn_one 3 (by kernel_rfl) ?_
              refine opIn_at rfl rfl ?_
              simp [go_sem, Oper.wpIn, Oper.about, Oper.uponIn]
              refine anyIn_one 4 (by kernel_rfl) ?_
              refine opIn_at rfl rfl ?_
              simp [go_sem, Oper.wpIn, Oper.about, Oper.uponIn, hc16]
              refine anyIn_one 5 (by kernel_rfl) ?_
              refine opIn_at rfl rfl ?_
              simp [go_sem, Oper.wpIn, Oper.about, Oper.uponIn, hm]
              refine anyIn_one 7 (by kernel_rfl) ?_
              refine opIn_at rfl rfl ?_
              simp [go_sem, Oper.wpIn, Oper.about, Oper.uponIn, hbits]
              exact g
            · refine opIn_at rfl rfl ?_
              simp [go_sem, Oper.wpIn, Oper.about, Oper.uponIn]
              refine anyIn_one 1 (by kernel_rfl) ?_
              refine opIn_at rfl rfl ?_
              simp [go_sem, Oper.wpIn, Oper.about, Oper.uponIn, hbu]
              refine anyIn_one 4 (by kernel_rfl) ?_
              refine opIn_at rfl rfl ?_
              simp [go_sem, Oper.wpIn, Oper.about, Oper.uponIn, hc16]
              refine anyIn_one 5 (by kernel_rfl) ?_
              refine opIn_at rfl rfl ?_
              simp [go_sem, Oper.wpIn, Oper.about, Oper.uponIn, hm]
              refine anyIn_one 7 (by kernel_rfl) ?_
              refine opIn_at rfl rfl ?_
              simp [go_sem, Oper.wpIn, Oper.about, Oper.uponIn, hbits]
              exact g
        · refine opIn_at rfl rfl ?_
          simp [go_sem, Oper.wpIn, Oper.about, Oper.uponIn, hbu]
          refine anyIn_one 0 (by kernel_rfl) ?_
          refine opIn_at rfl rfl ?_
          simp [go_sem, Oper.wpIn, Oper.about, Oper.uponIn, hbt]
          refine anyIn_one 2 (by kernel_rfl) ?_
          refine opIn_at rfl rfl ?_
          simp [go_sem, Oper.wpIn, Oper.about, Oper.uponIn]
          refine anyIn_one 3 (by kernel_rfl) ?_
          refine opIn_at rfl rfl ?_
          simp [go_sem, Oper.wpIn, Oper.about, Oper.uponIn]
          refine anyIn_one 4 (by kernel_rfl) ?_
          refine opIn_at rfl rfl ?_
          simp [go_sem, Oper.wpIn, Oper.about, Oper.uponIn, hc16]
          refine anyIn_one 5 (by kernel_rfl) ?_
          refine opIn_at rfl rfl ?_
          simp [go_sem, Oper.wpIn, Oper.about, Oper.uponIn, hm]
          refine anyIn_one 7 (by kernel_rfl) ?_
          refine opIn_at rfl rfl ?_
          simp [go_sem, Oper.wpIn, Oper.about, Oper.uponIn, hbits]
          exact g
    case tail =>
      refine anyIn_one 8 (by kernel_rfl) ?_
      refine opIn_at rfl rfl ?_
      simp [go_sem, Oper.wpIn, Oper.about, Oper.uponIn]
      refine ⟨trivial, ?_⟩
      refine (CallsIn.inRound l (callsIn_wide.2 (least_any _ _ hand hne' (HTB.out.keep (Below.refl _ _).drew)))).mono ?_
      rintro e w7 ⟨rfl, hw7⟩
      subst hw7
      refine anyIn_one 9 (by kernel_rfl) ?_
      refine opIn_at rfl rfl ?_
      simp [go_sem, Oper.wpIn, Oper.about, Oper.uponIn, hbu, hfu]
      refine ⟨by kernel_rfl, ?_⟩
      have hbu' := hbu
      clear hbt hbu hfu hm hbits
      -- the cell is laid; the vertex is appended
      obtain ⟨y, hy⟩ : ∃ y, y = leastM (M c &&& R q) := ⟨_, rfl⟩
      rw [← hy] at HCS ⊢
      have hy16 : y < 16 := by rw [HCS.out] at HC1; exact HC1
      clear hy
      obtain ⟨a3, c3, e3⟩ := H4.out.row.slice
      rw [wayD_len] at e3
      subst e3
      obtain ⟨Wa, hWa⟩ : ∃ Wa, (W.setCell ⟨w.heap.size + 1, 0, none⟩ (.int .i64 (y : Int))).drew = Wa := ⟨_, rfl⟩
      have hsa : Wa.heap.size = W.heap.size := by rw [← hWa]; simp
      have hka : ∀ k, k ≠ w.heap.size + 1 → Wa.heap[k]? = W.heap[k]? := fun k hk => by rw [← hWa]; exact heap_setCell_other _ _ _ _ (by simpa using hk)
      have h2a : Wa.heap[w.heap.size + 1]? = some (.cells #[.int .i64 (y : Int)] 2 (0, 0)) := by rw [← hWa]; exact heap_setCell_same _ _ 0 _ _ _ H2.out
      have h3a : Wa.heap[w.heap.size + 3]? = some (.cells #[.slice a3 (i + 1) c3] 36 (0, 0)) := (hka _ (by omega)).trans H3.out
      have HOa : Hid (OwnRow 2 Wa (w.heap.size + 2) (.slice a3 (i + 1) c3) (wayD M R d u i)) := by
        show OwnRow _ _ _ _ _
        rw [← hWa]
        exact (H4.out.setBelow (by simp) _).keep (Below.refl _ _).drew
      have HBa : Hid (Below w.heap.size w Wa) := by
        show Below _ _ _
        rw [← hWa]
        exact (HB.out.setCell (p := ⟨w.heap.size + 1, 0, none⟩) (by simp) _).drew
      have hbo : Wa.cell? ⟨w.heap.size + 3, 0, none⟩ = some (.slice a3 (i + 1) c3) := by rw [cell_of_row Wa _ 0 _ _ _ h3a]; rfl
      have hbu2 : Wa.cell? ⟨w.heap.size + 1, 0, none⟩ = some (.int .i64 (y : Int)) := by rw [cell_of_row Wa _ 0 _ _ _ h2a]; rfl
      have hwl2 : w.heap.size + 3 < Wa.heap.size := by omega
      have HWL := Lib.hid (wayD_len M R d u i)
      have HKA := Lib.hid hka
      have H2A := Lib.hid h2a
      have H3A := Lib.hid h3a
      have hsa1 : W.heap.size ≤ Wa.heap.size := by omega
      have hsa2 : Wa.heap.size ≤ W.heap.size := by omega
      have HS5 := Lib.hid hs5
      rw [hWa]
      clear hWa hka h2a h3a hbu' hsa hs5
      gi_wp2_with (gi_at_builtin; refine wpListIn_append_own _ rfl (.tmp 25) (.tmp 27) 36 rfl (w.heap.size + 2) 2 i0 (.int .i64 0) 1 8 Tryd.underlying36 hi hz0 hz1 hz2 rfl (by decide) _ _ _ rfl (HOa.out.owns.alloc _) ⟨Wa.heap.size, 0, none⟩ 1 1 [.int .i64 (y : Int)] rfl rfl (lit_one _ _ _) (one_one _) (by rw [HWL.out]; unfold maxLen; omega) (by rw [HWL.out]; omega) (by simp; omega) ?_)
      intro v4 w4 hown4 hgrow4 _
      have hown : ∀ k cs U fr, Wa.heap[k]? = some (Obj.cells cs U fr) → U ≠ 2 → some k ≠ (Value.slice a3 (i + 1) c3).ownBlock := fun k cs U fr hk hU e => by
        rcases HOa.out.2.2 with ⟨e3, _⟩ | ⟨g', cap', cur', e3, _, hh', _⟩
        · rw [e3] at e; simp [Value.ownBlock] at e
        · rw [e3] at e
          simp [Value.ownBlock] at e
          subst e
          rw [hk] at hh'
          simp at hh'
          exact hU hh'.2.1
      have hlow : ∀ k, (Value.slice a3 (i + 1) c3).ownBlock = some k → w.heap.size + 2 ≤ k ∧ ∃ cs, Wa.heap[k]? = some (.cells cs 2 (0, 0)) := fun k e => by
        rcases HOa.out.2.2 with ⟨e3, _⟩ | ⟨g', cap', cur', e3, hgB, hh', _⟩
        · rw [e3] at e; simp [Value.ownBlock] at e
        · rw [e3] at e
          simp [Value.ownBlock] at e
          subst e
          exact ⟨hgB, _, hh'⟩
      have hk4 : ∀ k, k < W.heap.size → k ≠ w.heap.size + 1 → some k ≠ (Value.slice a3 (i + 1) c3).ownBlock → w4.heap[k]? = W.heap[k]? := fun k hk h1 h2 => by
        rw [hgrow4.block k (by simp; omega) h2, Below.heap_alloc _ _ _ (by omega)]
        exact HKA.out k h1
      have h34 : w4.heap[w.heap.size + 3]? = some (.cells #[.slice a3 (i + 1) c3] 36 (0, 0)) := (hk4 _ hwl (by omega) (hown _ _ _ _ H3A.out (by decide))).trans H3.out
      have h24 : w4.heap[w.heap.size + 1]? = some (.cells #[.int .i64 (y : Int)] 2 (0, 0)) := by
        rw [hgrow4.block _ (by simp; omega) (fun e => by have := (hlow _ e.symm).1; omega), Below.heap_alloc _ _ _ (by omega)]
        exact H2A.out
      have hbo4 : w4.cell? ⟨w.heap.size + 3, 0, none⟩ = some (.slice a3 (i + 1) c3) := by rw [cell_of_row w4 _ 0 _ _ _ h34]; rfl
      have hfo4 : w4.frozen? ⟨w.heap.size + 3, 0, none⟩ = false := frozen_of_row w4 _ 0 _ _ h34
      have hO4 : OwnRow 2 w4 (w.heap.size + 2) v4 (wayD M R d u (i + 1)) := OwnRow.of_ownsRow (n := (wayD M R d u i).length + 1) (by rw [HWS.out, HCS.out]; simpa using hown4) (by rw [wayD_len]; unfold maxLen; omega) (fun x hx => by
        rw [HWS.out] at hx
        rcases List.mem_append.1 hx with hx | hx
        · exact HOa.out.1 x hx
        · simp at hx; subst hx; unfold I64; omega)
      have hs4 : W.heap.size ≤ w4.heap.size := by have := hgrow4.size; simp at this; omega
      have hB4 : Below w.heap.size w w4 := (HBa.out.alloc (by omega) _).grown hgrow4 (by simp; omega) (fun j hj => by have := (hlow j hj).1; omega)
      have hfin : ∀ k, k < W.heap.size → k ≠ w.heap.size + 1 → k ≠ w.heap.size + 3 → some k ≠ (Value.slice a3 (i + 1) c3).ownBlock → (w4.setCell ⟨w.heap.size + 3, 0, none⟩ v4).heap[k]? = W.heap[k]? := fun k hk h1 h2 h3 => by
        rw [heap_setCell_other _ _ _ _ (by simpa using h2)]
        exact hk4 k hk h1 h3
      have hs5 := HS5.out
      have hlo : w.heap.size + 6 < W.heap.size := by rw [hs5] at hsz; omega
      have HF1 : Hid (Two2 w5.heap.size W (w4.setCell ⟨w.heap.size + 3, 0, none⟩ v4)) := by
        refine ⟨?_, ?_⟩
        · rw [hs5]
          refine hfin _ (by omega) (by omega) (by omega) (fun e => ?_)
          obtain ⟨_, cs, hcs⟩ := hlow _ e.symm
          rw [HKA.out _ (by omega)] at hcs
          have := HOD.out
          rw [hs5, hcs] at this
          cases this
        · rw [hs5]
          refine hfin _ (by omega) (by omega) (by omega) (fun e => ?_)
          obtain ⟨_, cs, hcs⟩ := hlow _ e.symm
          rw [HKA.out _ (by omega)] at hcs
          have := HOL.out
          rw [hs5, hcs] at this
          cases this
      have HF2 : Hid (KeepsBut (fun k => k ≠ w.heap.size + 4 ∧ k ≠ gb) W (w4.setCell ⟨w.heap.size + 3, 0, none⟩ v4)) := by
        refine ⟨by simpa using hs4, fun k hk hn => ?_⟩
        have hk2 : k = w.heap.size + 4 ∨ k = gb := by
          rcases Nat.decEq k (w.heap.size + 4) with h1 | h1
          · rcases Nat.decEq k gb with h2 | h2
            · exact absurd ⟨h1, h2⟩ hn
            · exact .inr h2
          · exact .inl h1
        rcases hk2 with rfl | rfl
        · exact hfin _ hk (by omega) (by omega) (hown _ _ _ _ ((HKA.out _ (by omega)).trans HSV.out) (by decide))
        · exact hfin _ hk (by omega) (by omega) (fun e => by have := (hlow _ e.symm).1; omega)
      have HF3 : Hid (DI w bn M R d u (i + 1) (w4.setCell ⟨w.heap.size + 3, 0, none⟩ v4)) := by
        refine ⟨⟨sv, ?_⟩, ?_, ?_, ⟨v4, heap_setCell_same _ _ 0 _ _ _ h34, ?_⟩, hB4.setCell (p := ⟨w.heap.size + 3, 0, none⟩) (by simp) _⟩
        · exact (hfin _ (by omega) (by omega) (by omega) (hown _ _ _ _ ((HKA.out _ (by omega)).trans HSV.out) (by decide))).trans HSV.out
        · exact (hfin _ (by omega) (by omega) (by omega) (fun e => by have := (hlow _ e.symm).1; omega)).trans H1.out
        · rw [heap_setCell_other _ _ _ _ (by simp), HCS.out]; exact h24
        · refine hO4.kept (fun k cs fr hk => ?_)
          rw [heap_setCell_other _ _ _ _ (fun e => ?_)]
          · exact hk
          · simp at e
            subst e
            rw [h34] at hk
            simp at hk
      obtain ⟨a5, c5, e5⟩ := hO4.row.slice
      rw [wayD_len] at e5
      subst e5
      clear hown4 hgrow4 hown hlow hk4 h34 h24 hO4 hB4 hfin hbo hbu2 hs5
      gi_wp2
      refine ⟨HF1.out, HF2.out, ?_⟩
      show DI w bn M R d u (pre ++ [q]).length _
      rw [HPL.out]
      exact HF3.out
  case done =>
    rintro D ys W rfl ⟨-, -, -, ⟨val, h3, h4⟩, hb⟩ hD hK
    rw [downTo_len] at h4
    obtain ⟨a3, c3, e3⟩ := h4.row.slice
    rw [wayD_len] at e3
    subst e3
    have hbo : W.cell? ⟨w.heap.size + 3, 0, none⟩ = some (.slice a3 (d + 1) c3) := by rw [cell_of_row W _ 0 _ _ _ h3]; rfl
    have HK := Lib.hid hK
    have hDW : D < W.heap.size := (Array.getElem?_eq_some_iff.1 hK).1
    have HP : Hid (GaveRow w (wayD M R d u d) (.returned (.slice a3 (d + 1) c3)) (W.putObj D (.deferred none))) := by
      refine ⟨_, _, _, rfl, (h4.mono (by omega)).kept (fun k cs fr hk => ?_), hb.trans (below_put W D _ (by omega) hDW)⟩
      rw [World.putObj_heap_other (fun e => ?_)]
      · exact hk
      · subst e; rw [hK] at hk; cases hk
    clear h3 h4 hb hK
    go_wp2
    refine ⟨by simp, .inl ⟨_, _, rfl, run_takeDeferred HK.out, ?_⟩⟩
    exact ⟨_, results_tmp rfl _ _ _, by simpa using HP.out⟩
  case stop =>
    rintro D c pre W h _ _
    exact h.elim

end Go.Proofs.YtjbfoiolcpigfaaDoor
