/- The texts Z3, Z4, joined. -/
import Derived.Test.YtnjkhiheapmlmaaDoorQZ1
import Derived.Test.YtnjkhiheapmlmaaDoorQX2
import Derived.RangeFuncFrom
import Derived.Deep.RegionHeld3
import Derived.Test.YtnjkhiheapmlmaaDoorQY1

/- Walks: the iterator over the parts. -/
namespace Go.Proofs.YtnjkhiheapmlmaaDoor
open Go.RowKit Go.Shelf
attribute [local go_sem] Oper.semAt_some

theorem parts_any (bn : Nat) (w : World) :
    Calls Tryd.prog 26 #[.pointer (some ⟨bn, 0, none⟩)] w fun e w' =>
      e = .returned (.func (.func 60) #[] #[.pointer (some ⟨w.heap.size, 0, none⟩)]) ∧
      w' = w.alloc (.cells #[.pointer (some ⟨bn, 0, none⟩)] 80) := by
  have hmf : ∀ (fn : Fn) (first cap : Array Value) (w : World), (Instr.makeFunc fn first cap).run Tryd.prog w = .ok (.func fn first cap) w := fun _ _ _ _ => rfl
  go_enter Tryd.func26, Tryd.ntmps26
  go_wp2
  go_ret
  exact ⟨rfl, rfl⟩

/-- The vertices below k that begin a part. -/
noncomputable def headsTo (A : Nat → Nat → Bool) (n k : Nat) : List Nat := (List.range k).filter (fun v => headN A n v == v)
theorem headsTo_map (A : Nat → Nat → Bool) (n k : Nat) : (headsTo A n k).map (compN A n) = partsM A n k := rfl
theorem headsTo_len (A : Nat → Nat → Bool) (n k : Nat) : (headsTo A n k).length ≤ k := by
  have := List.length_filter_le (fun v => headN A n v == v) (List.range k)
  rwa [List.length_range] at this
theorem headsTo_succ {A : Nat → Nat → Bool} {n k : Nat} (h : headN A n k = k) : headsTo A n (k + 1) = headsTo A n k ++ [k] := by
  unfold headsTo
  rw [List.range_succ, List.filter_append]
  simp [h]
theorem headsTo_same {A : Nat → Nat → Bool} {n i j : Nat} (hij : i ≤ j) (h : ∀ v, i ≤ v → v < j → headN A n v ≠ v) : headsTo A n j = headsTo A n i := by
  induction j with
  | zero => obtain rfl : i = 0 := by omega
            rfl
  | succ j ih =>
    by_cases e : i = j + 1
    · subst e; rfl
    · have : headsTo A n (j + 1) = headsTo A n j := by
        unfold headsTo
        rw [List.range_succ, List.filter_append]
        simp [h j (by omega) (by omega)]
      rw [this]
      exact ih (by omega) (fun v h1 h2 => h v h1 (by omega))

/-- A part, as yield takes it. -/
noncomputable def encM (A : Nat → Nat → Bool) (n v : Nat) : Array Value := #[.int .u32 (compN A n v : Int)]

/-- What the iterator reads. -/
structure PartIn (w : World) (pt bn n : Nat) (M : Nat → Nat) : Prop where
  t : w.cell? ⟨pt, 0, none⟩ = some (.pointer (some ⟨bn, 0, none⟩))
  net : NetAt w bn n M
  tab : TabAt w
theorem PartIn.keep {w w' : World} {pt bn n : Nat} {M : Nat → Nat} (h : PartIn w pt bn n M) (hb : Below w.heap.size w w') : PartIn w' pt bn n M := ⟨cell_keep hb h.t, h.net.keep hb, h.tab.keep hb⟩
theorem PartIn.but {w w' : World} {pt bn n : Nat} {M : Nat → Nat} (h : PartIn w pt bn n M) (hb : KeepsBut (fun k => k ≠ pt ∧ k ≠ bn ∧ k ≠ 0) w w') : PartIn w' pt bn n M :=
  ⟨hb.cell (fun h => h.1 rfl) h.t, ⟨hb.cell (fun h => h.2.1 rfl) h.net.1, fun i hi => hb.cell (fun h => h.2.1 rfl) (h.net.2 i hi)⟩, fun i hi => hb.cell (fun h => h.2.2 rfl) (h.tab i hi)⟩

theorem grown_of_below {A B : World} (h : Below A.heap.size A B) : A.grownBy B none := ⟨h.os, h.tape, h.output, h.size, fun k hk _ => h.block k hk⟩

set_option maxHeartbeats 4000000 in
set_option maxRecDepth 100000 in
theorem parts1_seq (m pt bn n : Nat) (M : Nat → Nat) (w : World) (hM : ∀ i, M i < 65536) (hn : n ≤ 16) (hA : ∀ a b, nearM M a b = nearM M b a) (hin : PartIn w pt bn n M) :
    SeqStopsK Fence.wide m Tryd.prog 60 #[.pointer (some ⟨pt, 0, none⟩)] (encM (nearM M) n) (KeepsBut (fun k => k ≠ pt ∧ k ≠ bn ∧ k ≠ 0)) (fun xs => xs = headsTo (nearM M) n n) (fun _ => True) 17 w := by
  intro l J Jx W hW hJ hJx hY h0
  have hin1 := hin.keep hW
  have kt := hin1.t
  have kn := hin1.net.1
  have HIN := Lib.hid hin1
  have HJ : Hid (∀ s A B, J s A → Below A.heap.size A B → J s B) := fun s A B hs hb => hJ s A B none hs (grown_of_below hb) (fun r e => by cases e)
  have HY := Lib.hid hY
  have H0 := Lib.hid h0
  have HA := Lib.hid hA
  clear hin hW hJ hJx hY h0 hin1 hA
  refine callsIn_of_wp Tryd.func60 rfl trivial ?_ rfl
  simp only [Tryd.ntmps60, List.size_toArray, List.length_cons, List.length_nil, Nat.reduceAdd, Nat.reduceSub, Array.replicate_succ, Array.replicate_zero, List.push_toArray, List.append_toArray, List.nil_append, List.cons_append]
  gi_wp2_with fail
  refine ⟨trivial, fun h => (by cases h), ?_⟩
  refine (callsIn_wide.2 (wholeMask_any n _ hn)).mono ?_
  rintro e w2 ⟨rfl, rfl⟩
  clear kt kn
  gi_wp2
  gi_loopw [3] (fun rv wr => ∃ i : Nat, i ≤ n ∧ rv = .int .u32 (restN (nearM M) n i : Int) ∧ PartIn wr pt bn n M ∧ J (headsTo (nearM M) n i) wr) (fun rv _ => (intOf rv).toNat)
  case atStart => exact ⟨0, Nat.zero_le _, by rw [restN_zero hn], HIN.out, H0.out⟩
  case round =>
    obtain ⟨i, hi, rfl, hp, hj⟩ := hrel
    have hrl := restN_lt (nearM M) n i
    have HP := Lib.hid hp
    have HJR := Lib.hid hj
    clear hp hj HIN H0
    by_cases h0 : restN (nearM M) n i = 0
    · have HE : Hid (headsTo (nearM M) n i = headsTo (nearM M) n n) := (headsTo_same hi (fun v h1 h2 e => by
        have := (restN_bit (A := nearM M) hn i v).2 ⟨h2, by omega⟩
        rw [h0] at this; simp at this)).symm
      rw [h0]
      clear h0
      gi_wp2
      go_end0
      exact ⟨⟨_, rfl⟩, .inl ⟨_, HE.out, HJR.out⟩⟩
    · obtain ⟨q1, q2, q3, q4, q5⟩ := restN_least HA.out hn h0
      have hsp := leastM_spec h0 hrl
      have HRE : Hid (reachN (nearM M) (bitS (restN (nearM M) n i)) (leastM (restN (nearM M) n i)) = compN (nearM M) n (leastM (restN (nearM M) n i))) := reach_rest HA.out hn hsp.2.1
      have hb1 : ((restN (nearM M) n i : Int) != 0) = true := by rw [bne_iff_ne]; omega
      have hb2 : ((restN (nearM M) n i) != 0) = true := by rw [bne_iff_ne]; exact h0
      have kt := HP.out.t
      gi_wp2
      refine wpIn_wide.2 ?_
      go_region_held3 (fun wx => wx.cell? ⟨pt, 0, none⟩ = some (.pointer (some ⟨bn, 0, none⟩))) (first | exact kt | exact kta | exact ktb)
        (first
          | (go_at_call 28; refine (least_any _ _ hrl h0 (HP.out.keep (Below.refl _ _).drew).tab).mono ?_; rintro e wa ⟨rfl, hwa⟩; have HPA : Hid (PartIn wa pt bn n M) := (by rw [← hwa]; exact HP.out.keep (Below.refl _ _).drew); have HBA : Hid (Below wr.heap.size wr wa) := (by rw [← hwa]; exact (Below.refl _ _).drew); have kta := HPA.out.t; clear hwa)
          | (go_at_call 62; refine (reached_any _ _ _ _ _ _ HPA.out.net hM hrl hsp.1 hsp.2.1).mono ?_; rintro e wb ⟨rfl, hbb⟩; rw [HRE.out]; have HPB := Lib.hid (HPA.out.keep hbb); have HBB : Hid (Below wr.heap.size wr wb) := HBA.out.trans (hbb.mono HBA.out.size); have ktb := HPB.out.t; clear hbb))
      have HJB := Lib.hid (HJ.out _ _ _ HJR.out HBB.out)
      obtain ⟨q, HQ⟩ : ∃ q, Hid (q = leastM (restN (nearM M) n i)) := ⟨_, rfl⟩
      rw [← HQ.out] at q1 q2 q3 q4 q5 ⊢
      have HHS : Hid (headsTo (nearM M) n (q + 1) = headsTo (nearM M) n i ++ [q]) := by show _ = _; rw [headsTo_succ q3, headsTo_same q1 q4]
      have hlen := headsTo_len (nearM M) n i
      obtain ⟨fn, tmps, assign, body, hy, hR⟩ := HY.out _ q wb HJB.out (by omega)
      simp only [encM] at hy
      have HR7 := Lib.hid hR
      have hcl := compN_lt (nearM M) n q
      have hbits : bits BinOp.andNot IntKind.u32 (restN (nearM M) n i : Int) (compN (nearM M) n q : Int) = ((restN (nearM M) n (q + 1) : Nat) : Int) := by
        rw [← q5, ← restN_step HA.out hn q2 q3, u32_andNot_nat _ _ (by have := restN_lt (nearM M) n q; omega) (by omega)]; rfl
      have HLT : Hid (restN (nearM M) n (q + 1) < restN (nearM M) n i) := by
        show _ < _
        rw [← q5, ← restN_step HA.out hn q2 q3]
        refine Nat.lt_of_le_of_ne Nat.and_le_left (fun e => ?_)
        have h1 : (restN (nearM M) n q).testBit q = true := (restN_bit hn q q).2 ⟨q2, by omega⟩
        have h2 : (clrM (restN (nearM M) n q) (compN (nearM M) n q)).testBit q = false := by rw [clrM_bit (restN_lt _ _ _) (compN_lt _ _ _), compN_self hn q2]; simp
        rw [show clrM (restN (nearM M) n q) (compN (nearM M) n q) = restN (nearM M) n q from e, h1] at h2
        cases h2
      clear hR kt kta ktb HRE HPA HBA HJR HJB hsp hb1 hb2 h0
      gi_wp2
      refine ⟨fun h => (by cases h), HR7.out.mono ?_⟩
      rintro e W3 (⟨rfl, hJ3, hk3⟩ | ⟨rfl, hJx3⟩)
      · have HJ3 := Lib.hid hJ3
        have HP3 := Lib.hid (HPB.out.but hk3)
        clear hJ3 hk3 hy
        gi_wp2
        go_roundw
        case rel => exact ⟨q + 1, by omega, rfl, HP3.out, by rw [HHS.out]; exact HJ3.out⟩
        case measure => simp [intOf]; exact HLT.out
      · have HX3 := Lib.hid hJx3
        clear hJx3 hy
        gi_wp2
        refine bodyPost_ret (results_none rfl _ _ _) rfl ?_
        exact ⟨⟨_, rfl⟩, .inr ⟨_, trivial, HX3.out⟩⟩

end Go.Proofs.YtnjkhiheapmlmaaDoor

/- Walks: PartsOf, of the program. -/
namespace Go.Proofs.YtnjkhiheapmlmaaDoor
open Go.RowKit Go.Shelf
attribute [local go_sem] Oper.semAt_some

theorem OwnRow.kept {T : TypeId} {w w' : World} {B : Nat} {v : Value} {xs : List Int} (h : OwnRow T w B v xs) (hk : ∀ (k : Nat) (cs : Array Value) (fr : Nat × Nat), w.heap[k]? = some (Obj.cells cs T fr) → w'.heap[k]? = some (Obj.cells cs T fr)) : OwnRow T w' B v xs := by
  obtain ⟨h1, h2, h3⟩ := h
  refine ⟨h1, h2, ?_⟩
  rcases h3 with h3 | ⟨g, cap, cur, e, hg, hh, r⟩
  · exact Or.inl h3
  · exact Or.inr ⟨g, cap, cur, e, hg, hk _ _ _ hh, r⟩
theorem OwnGrid.kept {T T1 : TypeId} {w w' : World} {B : Nat} {v : Value} {L : List (List Int)} (h : OwnGrid T T1 w B v L) (hk : ∀ (k : Nat) (cs : Array Value) (U : TypeId) (fr : Nat × Nat), U = T ∨ U = T1 → w.heap[k]? = some (Obj.cells cs U fr) → w'.heap[k]? = some (Obj.cells cs U fr)) : OwnGrid T T1 w' B v L := by
  obtain ⟨R, h2, h3, h4, h5⟩ := h
  refine ⟨R, h2, ?_, fun i hi => (h4 i hi).kept (fun k cs fr h => hk k cs T fr (.inl rfl) h), h5⟩
  rcases h3 with h3 | ⟨g, cap, cur, e, hg, hh, r⟩
  · exact Or.inl h3
  · exact Or.inr ⟨g, cap, cur, e, hg, hk _ _ _ _ (.inr rfl) hh, r⟩

/-- The program's list of parts, half done. -/
def PI (w : World) (bx B bn : Nat) (L : List (List Int)) (W : World) : Prop :=
  W.heap[bx + 1]? = some (.cells #[.pointer (some ⟨bn, 0, none⟩)] 80 (0, 0)) ∧ (∃ val, W.heap[bx]? = some (.cells #[val] 24 (0, 0)) ∧ OwnGrid 2 28 W B val L) ∧ Below w.heap.size w W
theorem PI.own {β : Type} (w : World) (bx B bn C : Nat) (f : β → List (List Int)) (hC : w.heap.size ≤ C) : OwnFrom C (fun s W => PI w bx B bn (f s) W) := by
  rintro s W W' row ⟨hpt, ⟨val, hb, hg⟩, hbel⟩ hgr hr
  have hk : ∀ (k : Nat) (cs : Array Value) (U : TypeId) (fr : Nat × Nat), W.heap[k]? = some (Obj.cells cs U fr) → W'.heap[k]? = some (Obj.cells cs U fr) := fun k cs U fr h => by
    refine (hgr.block k (Array.getElem?_eq_some_iff.1 h).1 ?_).trans h
    intro e
    obtain ⟨_, o, ho, hc⟩ := hr k e.symm
    rw [h] at ho; cases ho; simp [Obj.isCells] at hc
  refine ⟨hk _ _ _ _ hpt, ⟨val, hk _ _ _ _ hb, hg.kept (fun k cs U fr _ h => hk k cs U fr h)⟩, ?_⟩
  exact hbel.trans ⟨hgr.os, hgr.tape, hgr.output, hgr.size, fun k hk' => hgr.block k (by have := hbel.size; omega) (fun e => by have := (hr k e.symm).1; omega)⟩

section
variable {F : Fence} {n : Nat} {P : Program} {ops : Array Oper} {Q : Exit → Act → World → Prop}
theorem anyIn_one {fuel : Nat} {listed : Array Bool} {a : Act} {w : World} (i : Nat) (hr : Region.ready .any ops listed = [i]) (h : wpOpIn F n P ops Q i (wpAnyIn F n P .any ops Q fuel (listed.setIfInBounds i true)) a w) : wpAnyIn F n P .any ops Q (fuel + 1) listed a w := by
  refine ⟨fun h0 => (by rw [hr] at h0; cases h0), fun k hk => ?_⟩
  rw [hr] at hk
  simp at hk
  subst hk
  exact h
theorem anyIn_two {fuel : Nat} {listed : Array Bool} {a : Act} {w : World} (i j : Nat) (hr : Region.ready .any ops listed = [i, j]) (h : wpOpIn F n P ops Q i (wpAnyIn F n P .any ops Q fuel (listed.setIfInBounds i true)) a w)
    (h' : wpOpIn F n P ops Q j (wpAnyIn F n P .any ops Q fuel (listed.setIfInBounds j true)) a w) : wpAnyIn F n P .any ops Q (fuel + 1) listed a w := by
  refine ⟨fun h0 => (by rw [hr] at h0; cases h0), fun k hk => ?_⟩
  rw [hr] at hk
  simp at hk
  rcases hk with rfl | rfl
  · exact h
  · exact h'
theorem opIn_at {i : Nat} {o : Oper} {K : Act → World → Prop} {a : Act} {w : World} (ho : ops[i]? = some o) (hg : o.guard = none) (h : o.wpIn F n P a w K Q) : wpOpIn F n P ops Q i K a w := by
  unfold wpOpIn
  rw [ho]
  have hw : Region.wanted o (yielded ops a.tmps) = true := by simp [Region.wanted, hg]
  simp only [hw, if_true]
  exact h
theorem wpIn_append_own (w : World) {o : Oper} {a : Act} {K : Act → World → Prop} (s x : Operand) (t : TypeId) (hop : o.op = Op.call { callee := Callee.builtin Builtin.append, args := #[s, x], argTypes := #[t, t] })
    (base : Nat) (e : TypeId) (i : TypeInfo) (z : Value) (size bytes : Nat) (h1 : P.underlying t = some (.slice e)) (h2 : P.info? e = some i) (h3 : i.zero = some z) (h4 : i.size = size) (h5 : i.bytes = bytes) (h6 : z.cells.size = size) (h7 : 0 < size)
    (v : Value) (k : Nat) (xs : List Value) (hs : a.eval s = v) (hown : w.ownsRow base e size v k xs) (ad : Addr) (m c : Nat) (news : List Value) (hx : a.eval x = .slice (some ad) m c) (hn : news.length = m * size)
    (hc : ∀ j u, news[j]? = some u → w.cell? (ad.add j) = some u) (h1c : ∀ u ∈ news, u.oneCell' = true) (b1 : k + m ≤ maxLen) (b2 : (k + m) * bytes ≤ 140737488355328) (b3 : base ≤ w.heap.size)
    (hK : ∀ v' w', w'.ownsRow base e size v' (k + m) (xs ++ news) → w.grownBy w' v.ownBlock → K (a.put o.dst v') w') : o.wpIn F n P a w K Q := by
  obtain ⟨v', w', hrun, r1, r2, r3⟩ := run_append_own (P := P) w base t o.type e i z size bytes h1 h2 h3 h4 h5 h6 h7 v k xs hown ad m c news hn hc h1c b1 b2 b3
  unfold Oper.wpIn
  refine ⟨?_, ?_⟩
  · simp [Oper.about, hop, resolve, Target.leads, Sem.run_pure]
  · rw [Oper.semAt_plain F _ _ (by rw [hop]; intro c hc'; cases hc')]
    simp [execOp, hop, resolve, invoke, builtin, hs, hx, hrun, Result.andThen]
    exact hK v' w' r1 r2
end

end Go.Proofs.YtnjkhiheapmlmaaDoor
