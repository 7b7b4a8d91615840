/- The walk of FnContracted. -/
import Derived.Test.YtjbfoiolcpigfaaDoorFC1
import Derived.Test.YtjbfoiolcpigfaaDoorQFC2
import Derived.Test.YtjbfoiolcpigfaaDoorZ4
import Derived.Test.YtjbfoiolcpigfaaDoorFT2
import Derived.Deep.RegionHeld3

namespace Go.Proofs.YtjbfoiolcpigfaaDoor
open Go.RowKit

/-- What is so of an edge that is contracted. -/
structure ConP (L C : List (List Int)) (u x : Int) : Prop where
  one : conL L u x = C
  two : conL L x u = C
  back : edgeB L x u = true
  graph : GraphP C
  len : C.length = L.length - 1
  base : 2 ≤ L.length ∧ L.length ≤ 16
  parts : (partsL C).length = (partsL L).length
  many : manyN C < manyN L
theorem con_facts {L : List (List Int)} {u x : Int} (h : edgeB L u x = true) : ∃ C, ConP L C u x := by
  obtain ⟨hG, a, b, hab, hlt, hb⟩ := edgeB_ends h
  have hz := hG.1
  have ha : a < L.length := by omega
  have hadj : adjB L a b = true := by
    rcases hab with ⟨rfl, rfl⟩ | ⟨rfl, rfl⟩
    · rwa [edgeB_adj hG ha hb] at h
    · rw [edgeB_adj hG hb ha] at h
      rw [adjB_sym hG]; exact h
  have hback : edgeB L x u = true := by
    rcases hab with ⟨rfl, rfl⟩ | ⟨rfl, rfl⟩
    · rw [edgeB_adj hG hb ha, adjB_sym hG]; exact hadj
    · rw [edgeB_adj hG ha hb]; exact hadj
  have hone : conL L u x = adjL (L.length - 1) (conX L a b) := by
    unfold conL
    rw [h]
    have hmin : (min u x).toNat = a ∧ (max u x).toNat = b := by rcases hab with ⟨rfl, rfl⟩ | ⟨rfl, rfl⟩ <;> omega
    rw [hmin.1, hmin.2]
    exact conX_pick hG hlt hb
  refine ⟨adjL (L.length - 1) (conX L a b), hone, ?_, hback, conX_graph hG hlt hb, adjL_len _ _, ⟨by omega, hz.2⟩, con_parts hG hlt hb hadj, con_many hG hlt hb hadj⟩
  rw [← conL_sym L u x (by rw [h, hback]), hone]

set_option maxHeartbeats 8000000 in
set_option maxRecDepth 100000 in
theorem lawContracted (a0 : Option Addr) (n0 c0 : Nat) (w : World) (hb : n0 ≤ 4096 → BytesAt w w.heap.size (.slice a0 n0 c0) n0) (hT : TabAt w) :
    Calls Tryd.prog 4 #[.slice a0 n0 c0] w fun e w' => e = .returned (.bool true) ∧ Below w.heap.size w w' := by
  have HBY := Lib.hid hb
  clear hb
  go_enter Tryd.func4, Tryd.ntmps4
  go_wp2_with fail
  refine (big_any _ _ _ _).mono ?_
  rintro e w' ⟨rfl, rfl⟩
  by_cases hbig : (4096 : Int) < (n0 : Int)
  · rw [decide_eq_true hbig]
    go_wp2
    go_ret
    exact ⟨rfl, Below.refl _ _⟩
  rw [decide_eq_false hbig]
  go_wp2_with fail
  refine (drawContracted_any n0 _ _ (HBY.out (by omega))).mono ?_
  rintro e w1 ⟨L, m, a, cap, u, v, rfl, ho1, hu, hv, hb1⟩
  obtain rfl : m = L.length := by
    obtain ⟨a3, c3, e3⟩ := ho1.grid.slice
    simp only [Value.slice.injEq] at e3
    exact e3.2.1
  have hst : Below w1.heap.size w1 (w1.alloc (.cells #[.slice a L.length cap] 29)) := (Below.refl _ _).alloc (Nat.le_refl _) _
  have X3 : Hid (Bx (w1.alloc (.cells #[.slice a L.length cap] 29)) w1.heap.size (.slice a L.length cap) L) := Bx.new ho1.grid
  have HB : Hid (Below w.heap.size w (w1.alloc (.cells #[.slice a L.length cap] 29))) := hb1.trans (hst.mono hb1.size)
  have kx3 := X3.out.box.1
  clear ho1 hb1 hst
  go_wp2_with fail
  generalize (w1.alloc (.cells #[.slice a L.length cap] 29)) = W1 at X3 HB kx3 ⊢
  refine (implContracted_any _ L u v _ X3.out.grid hu hv).mono ?_
  rintro e w2 ⟨n2, a2, c2, rfl, ho2, hb2⟩
  have hst : Below w2.heap.size w2 (w2.alloc (.cells #[.slice a2 n2 c2] 29)) := (Below.refl _ _).alloc (Nat.le_refl _) _
  have hS : Below W1.heap.size W1 (w2.alloc (.cells #[.slice a2 n2 c2] 29)) := hb2.trans (hst.mono hb2.size)
  have Y3 := Lib.hid (X3.out.keep hS)
  have Y6 : Hid (Bx (w2.alloc (.cells #[.slice a2 n2 c2] 29)) w2.heap.size (.slice a2 n2 c2) (conL L u v)) := Bx.new ho2.grid
  have HB2 : Hid (Below w.heap.size w (w2.alloc (.cells #[.slice a2 n2 c2] 29))) := HB.out.trans (hS.mono HB.out.size)
  obtain rfl : n2 = (conL L u v).length := by
    obtain ⟨a3, c3, e3⟩ := ho2.grid.slice
    simp only [Value.slice.injEq] at e3
    exact e3.2.1
  clear kx3 X3 HB ho2 hb2 hst hS
  have ky3 := Y3.out.box.1
  obtain ⟨E, hE⟩ : ∃ E, edgeB L u v = E := ⟨_, rfl⟩
  have HE := Lib.hid hE
  have qE : (E != E) = false := by simp
  rw [hE]
  clear hE
  go_wp2_with fail
  generalize (w2.alloc (.cells #[.slice a2 (conL L u v).length c2] 29)) = W2 at Y3 Y6 HB2 ky3 ⊢
  refine (specEdgeIn_any _ L u v _ Y3.out.grid hu hv).mono ?_
  rintro e w3 ⟨rfl, hb3⟩
  rw [HE.out]
  have Z3 := Lib.hid (Y3.out.keep hb3)
  have Z6 := Lib.hid (Y6.out.keep hb3)
  have HB3 : Hid (Below w.heap.size w w3) := HB2.out.trans (hb3.mono HB2.out.size)
  clear hb3 Y3 Y6 HB2 ky3
  cases E with
  | false =>
    have h0 : (conL L u v).length = 0 := by rw [conL_no HE.out]; rfl
    have kz6 := Z6.out.box.1
    rw [h0] at kz6
    clear h0
    go_wp2
    go_ret
    exact ⟨rfl, HB3.out⟩
  | true =>
    obtain ⟨C, hC⟩ := con_facts HE.out
    have HC := Lib.hid hC
    rw [hC.one] at Z6
    have kz3 := Z3.out.box.1
    have hlen := hC.len
    have hbase := hC.base
    clear hC
    go_wp2_with fail
    refine (implContracted_any _ L v u _ Z3.out.grid hv hu).mono ?_
    rintro e w4 ⟨n4, a4, c4, rfl, ho4, hb4⟩
    rw [HC.out.two] at ho4
    rw [HC.out.back]
    have hst : Below w4.heap.size w4 (w4.alloc (.cells #[.slice a4 n4 c4] 29)) := (Below.refl _ _).alloc (Nat.le_refl _) _
    have hS : Below w3.heap.size w3 (w4.alloc (.cells #[.slice a4 n4 c4] 29)) := hb4.trans (hst.mono hb4.size)
    have V3 := Lib.hid (Z3.out.keep hS)
    have V6 := Lib.hid (Z6.out.keep hS)
    have V8 : Hid (Bx (w4.alloc (.cells #[.slice a4 n4 c4] 29)) w4.heap.size (.slice a4 n4 c4) C) := Bx.new ho4.grid
    have HB4 : Hid (Below w.heap.size w (w4.alloc (.cells #[.slice a4 n4 c4] 29))) := HB3.out.trans (hS.mono HB3.out.size)
    clear ho4 hb4 hst hS kz3 Z3 Z6 HB3
    go_wp2_with fail
    generalize (w4.alloc (.cells #[.slice a4 n4 c4] 29)) = Wb at V3 V6 V8 HB4 ⊢
    obtain ⟨q, hq⟩ : ∃ q, C.length = q := ⟨_, rfl⟩
    rw [hq] at V6 hlen
    have hqI : (q : Int) = (L.length : Int) - 1 := by omega
    have hqq : ((q : Int) == (L.length : Int) - 1) = true := by rw [hqI]; simp
    have hwq : IntKind.i64.wrap ((L.length : Int) - 1) = (L.length : Int) - 1 := IntWalk.i64_in _ (by omega)
    have kv3 := V3.out.box.1
    have kv6 := V6.out.box.1
    have kv8 := V8.out.box.1
    have HTb : Hid (∀ w', Below Wb.heap.size Wb w' → TabAt w') := fun w' h => (hT.keep HB4.out).keep h
    have HSB : Hid (sameB C C = true) := by show sameB C C = true; unfold sameB; rw [decide_eq_true HC.out.graph, decide_eq_true rfl]; rfl
    have HGD : Hid (decide (GraphP C) = true) := decide_eq_true HC.out.graph
    have HPC := Lib.hid HC.out.parts
    have hpL : (partsL L).length ≤ 1048576 := (partsL_small L).1
    obtain ⟨PA, hPA⟩ : ∃ PA, (partsL L).length = PA := ⟨_, rfl⟩
    rw [hPA] at hpL
    have HPA := Lib.hid hPA
    have qP : ((PA : Int) == (PA : Int)) = true := by simp
    have hmn := HC.out.many
    obtain ⟨EC, hEC⟩ : ∃ EC, manyN C = EC := ⟨_, rfl⟩
    obtain ⟨EL, hEL⟩ : ∃ EL, manyN L = EL := ⟨_, rfl⟩
    rw [hEC, hEL] at hmn
    have HEC := Lib.hid hEC
    have HEL := Lib.hid hEL
    have hdm : decide (EC < EL) = true := by simpa using hmn
    clear hPA hEC hEL hqI hq hlen
    go_region_held3 (fun wx => wx.cell? ⟨w1.heap.size, 0, none⟩ = some (.slice a L.length cap) ∧ wx.cell? ⟨w2.heap.size, 0, none⟩ = some (.slice a2 q c2) ∧ wx.cell? ⟨w4.heap.size, 0, none⟩ = some (.slice a4 n4 c4)) (first | exact ⟨kv3, kv6, kv8⟩ | exact ⟨ka3, ka6, ka8⟩ | exact ⟨kb3, kb6, kb8⟩ | exact ⟨kc3, kc6, kc8⟩ | exact ⟨kd3, kd6, kd8⟩ | exact ⟨ke3, ke6, ke8⟩ | exact ⟨kf3, kf6, kf8⟩)
      (first
        | (go_at_call 22; refine (implSameGraph_any _ _ C C _ (V6.out.grid.keep (Below.refl _ _).drew) (V8.out.grid.keep (Below.refl _ _).drew)).mono ?_; rintro e wa ⟨rfl, hba⟩; have HBa : Hid (Below Wb.heap.size Wb wa) := (Below.refl _ _).drew.trans hba; have ka3 := (V3.out.keep HBa.out).box.1; have ka6 := (V6.out.keep HBa.out).box.1; have ka8 := (V8.out.keep HBa.out).box.1; rw [HSB.out]; clear hba)
        | (go_at_call 31; refine (implGraphOk_any _ C _ (V6.out.grid.keep HBa.out)).mono ?_; rintro e wb ⟨rfl, hbb⟩; have HBb : Hid (Below Wb.heap.size Wb wb) := HBa.out.trans (hbb.mono HBa.out.size); have kb3 := (V3.out.keep HBb.out).box.1; have kb6 := (V6.out.keep HBb.out).box.1; have kb8 := (V8.out.keep HBb.out).box.1; rw [HGD.out]; clear hbb)
        | (go_at_call 26; refine (implPartsOf_any _ C _ (V6.out.grid.keep HBb.out) (HTb.out _ HBb.out)).mono ?_; rintro e wc ⟨nc, ac, cc, rfl, hoc, hbc⟩; have HBc : Hid (Below Wb.heap.size Wb wc) := HBb.out.trans (hbc.mono HBb.out.size); have kc3 := (V3.out.keep HBc.out).box.1; have kc6 := (V6.out.keep HBc.out).box.1; have kc8 := (V8.out.keep HBc.out).box.1; obtain ⟨a', c', ea⟩ := hoc.grid.slice; simp only [Value.slice.injEq] at ea; obtain ⟨rfl, rfl, rfl⟩ := ea; rw [HPC.out, HPA.out]; clear hbc hoc)
        | (go_at_call 27; refine (specPartsOf_any _ L _ (V3.out.grid.keep HBc.out)).mono ?_; rintro e wd ⟨nd, ad, cd, rfl, hod, hbd⟩; have HBd : Hid (Below Wb.heap.size Wb wd) := HBc.out.trans (hbd.mono HBc.out.size); have kd3 := (V3.out.keep HBd.out).box.1; have kd6 := (V6.out.keep HBd.out).box.1; have kd8 := (V8.out.keep HBd.out).box.1; obtain ⟨a', c', ea⟩ := hod.grid.slice; simp only [Value.slice.injEq] at ea; obtain ⟨rfl, rfl, rfl⟩ := ea; rw [HPA.out]; clear hbd hod)
        | (go_at_call 23; refine (implManyEdges_any _ C _ (V6.out.grid.keep HBd.out)).mono ?_; rintro e we ⟨rfl, hbe⟩; have HBe : Hid (Below Wb.heap.size Wb we) := HBd.out.trans (hbe.mono HBd.out.size); have ke3 := (V3.out.keep HBe.out).box.1; have ke6 := (V6.out.keep HBe.out).box.1; have ke8 := (V8.out.keep HBe.out).box.1; rw [HEC.out]; clear hbe)
        | (go_at_call 24; refine (specManyEdges_any _ L _ (V3.out.grid.keep HBe.out)).mono ?_; rintro e wf ⟨rfl, hbf⟩; have HBf : Hid (Below Wb.heap.size Wb wf) := HBe.out.trans (hbf.mono HBe.out.size); have kf3 := (V3.out.keep HBf.out).box.1; have kf6 := (V6.out.keep HBf.out).box.1; have kf8 := (V8.out.keep HBf.out).box.1; rw [HEL.out]; clear hbf))
    have HFIN : Hid (Below w.heap.size w wf) := HB4.out.trans (HBf.out.mono HB4.out.size)
    go_wp2
    go_ret
    exact ⟨rfl, HFIN.out⟩

end Go.Proofs.YtjbfoiolcpigfaaDoor
