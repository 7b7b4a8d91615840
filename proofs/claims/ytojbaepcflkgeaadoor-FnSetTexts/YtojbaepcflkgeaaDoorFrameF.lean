/- What the rows ask of the library's variables: the premises of the walks, out of the list and out of the world's shape; the witness. -/
import Derived.Test.YtojbaepcflkgeaaDoorRows
import Derived.Test.YtojbaepcflkgeaaDoorTie
import Derived.Test.YtojbaepcflkgeaaDoorCards
import Derived.Test.YtojbaepcflkgeaaDoorQFrame
import Derived.Test.YtojbaepcflkgeaaDoorQTS2
import Derived.LaidMore
import Derived.Lay
import Derived.Stop.Joined
import Derived.Stop.LaidErr
import Derived.Lib.LaidTab
import Derived.SevenTiedAt
import Derived.RowKitTokens
import Derived.ChangeMaps5

namespace Go.Proofs.YtojbaepcflkgeaaDoor
open Go.ChangeShapes Go.WideShapes Go.ChangeAt Go.RowKit
set_option maxRecDepth 100000

/-- The list of the rows. -/
abbrev laidF : List (String × DataW Unit) := [("math/bits.deBruijn32tab", Rows.laid_math_bits_deBruijn32tab), ("math/bits.deBruijn64tab", Rows.laid_math_bits_deBruijn64tab), ("internal/strconv.uint64pow10", Rows.laid_internal_strconv_uint64pow10), ("unicode/utf8.acceptRanges", Rows.laid_unicode_utf8_acceptRanges), ("strconv.ErrRange", Rows.laid_strconv_ErrRange), ("strconv.ErrSyntax", Rows.laid_strconv_ErrSyntax), ("unicode/utf8.first", Rows.laid_unicode_utf8_first)]

theorem gPow : Tryd.prog.globalNamed "internal/strconv.uint64pow10" = some 1 := by kernel_rfl
theorem gPowT : (Tryd.prog.globals[1]?).map (·.type) = some 104 := by kernel_rfl
theorem powA : Tryd.prog.underlying 104 = some (.array 20 62) := by kernel_rfl
theorem powE : Tryd.prog.underlying 62 = some (.int .u64) := by kernel_rfl
theorem powC : Tryd.prog.cellsOf 62 = 1 := by kernel_rfl
theorem powN : Tryd.prog.cellsOf 104 = 20 := by kernel_rfl
theorem gSyn : Tryd.prog.globalNamed "strconv.ErrSyntax" = some 2 := by kernel_rfl
theorem gSynT : (Tryd.prog.globals[2]?).map (·.type) = some 64 := by kernel_rfl
theorem gRng : Tryd.prog.globalNamed "strconv.ErrRange" = some 3 := by kernel_rfl
theorem gRngT : (Tryd.prog.globals[3]?).map (·.type) = some 64 := by kernel_rfl
theorem errI : ∃ ms, Tryd.prog.underlying 64 = some (.interface ms) := by
  have h : (match Tryd.prog.underlying 64 with | some (.interface _) => true | _ => false) = true := by kernel_rfl
  split at h
  · exact ⟨_, by assumption⟩
  · cases h
theorem errP : Tryd.prog.underlying 123 = some (.pointer 125) := by kernel_rfl
theorem errC : Tryd.prog.cellsOf 125 = 1 := by kernel_rfl
theorem strU : Tryd.prog.underlying 9 = some .string := by kernel_rfl
theorem strC : Tryd.prog.cellsOf 9 = 1 := by kernel_rfl
theorem errStar : "*" ++ "errors.errorString" = "*errors.errorString" := by decide
theorem errS : ∃ f : Field, Tryd.prog.underlying 125 = some (.struct #[f]) ∧ f.type = 9 ∧ f.offset = 0 := by
  have h : (match Tryd.prog.underlying 125 with | some (.struct fs) => fs.size == 1 && (fs[0]?).any (fun f => f.type == 9 && f.offset == 0) | _ => false) = true := by kernel_rfl
  split at h
  · rename_i fs e
    rw [Bool.and_eq_true, beq_iff_eq] at h
    obtain ⟨h1, h2⟩ := h
    obtain ⟨l⟩ := fs
    match l, h1, h2, e with
    | [f], _, h2, e =>
      simp at h2
      exact ⟨f, e, h2.1, h2.2⟩
  · cases h
theorem errRow (u : TypeId) (h : Tryd.prog.typeName? 3 u = some "*errors.errorString") : u = 123 :=
  typeName_ptr_named (nm := "errors.errorString") (by rw [errStar]; kernel_rfl) (by kernel_rfl) (by decide) u (by rw [errStar]; exact h)

/-- The number that the world's shape leaves in the cell 0. -/
theorem one_of_shape {W : World} (h : W.ShapedOpen Tryd.prog) : ∃ m : Int, W.cell? ⟨0, 0, none⟩ = some (.int .i64 m) := by
  obtain ⟨h1, _⟩ := h
  have hz : ∃ zero, (((begin Tryd.prog (fun _ _ => 0) default).world.heap[0]?).bind Obj.row? = some (zero, 3)) ∧ zero.size = 1 := ⟨#[.int .i64 0], by kernel_rfl, rfl⟩
  obtain ⟨zero, hz, hs⟩ := hz
  obtain ⟨cs, hc, hsz, hr⟩ := h1 0 zero 3 (of_decide_eq_true (by kernel_rfl)) hz
  obtain ⟨ts, ht, _, hv⟩ := hr (by kernel_rfl)
  have et : Tryd.prog.cellTypes Tryd.prog.depth 3 = some [3] := by kernel_rfl
  obtain rfl := Option.some.inj (et.symm.trans ht)
  rw [hs] at hsz
  have h0 : ∃ v, cs[0]? = some v := ⟨cs[0]'(by omega), by simp⟩
  obtain ⟨v, h0⟩ := h0
  obtain ⟨u, hu, hok⟩ := hv 0 v h0
  obtain rfl : u = 3 := by simpa using hu.symm
  have eu : Tryd.prog.underlying 3 = some (.int .i64) := by kernel_rfl
  unfold Cell.ok at hok
  rw [eu] at hok
  cases v with
  | int k n =>
    obtain ⟨rfl, _⟩ := hok
    exact ⟨n, by unfold World.cell?; simp only [hc]; simpa using h0⟩
  | _ => exact absurd hok (by simp)

theorem vars_of_laid {W : World} (h : laidMetH Tryd.prog laidF W) (hs : W.ShapedOpen Tryd.prog) : VarsAt W := by
  rw [MakeChecks.laidMetH_plain _ _ _ (by kernel_rfl)] at h
  have h3 := h.tail.tail
  have hp : laidMet Tryd.prog (("internal/strconv.uint64pow10", Lib.tabData .u64 Lib.pow10Tab) :: _) W := h3
  have hT := Lib.tabIs_of_head gPow gPowT powA powE powC powN hp
  have h5 := h3.tail.tail
  obtain ⟨ms, eI⟩ := errI
  obtain ⟨f, eS, eT, eO⟩ := errS
  obtain ⟨a0, s0, hv0, _, _, _⟩ := laid_sentinel h5 gRng gRngT eI errRow errP eS eT eO strU errC strC
  obtain ⟨a1, s1, hv1, _, _, _⟩ := laid_sentinel h5.tail gSyn gSynT eI errRow errP eS eT eO strU errC strC
  refine ⟨one_of_shape hs, ⟨_, _, by simpa using World.var?_cell gSyn hv1 0⟩, ⟨_, _, by simpa using World.var?_cell gRng hv0 0⟩, hT, fun g hg => ?_⟩
  obtain rfl := Option.some.inj (gPow.symm.trans hg)
  unfold Lib.TabIs World.var? at hT
  rw [gPow] at hT
  rcases Nat.lt_or_ge 1 W.heap.size with h' | h'
  · exact h'
  · simp [Array.getElem?_eq_none h'] at hT

/-- The row's premise to a contract in a world whose shape is at hand. -/
theorem handed_shaped {a : Assume} {C : Checked} {os : Os} {f : FuncId} {fn : Func} {s : ChangeSpec} {conds : List PathCond} {apart fresh handsOn again : Bool} {H : Type} {enc : TypeId × Value → H} {X : World → Array Value → Prop}
    (hX : ∀ (w w' : World) (args : Array Value), w.heap = w'.heap → X w args → X w' args)
    (own : ownKnob C.prog.godebug = none) (started : os.Started) (noInit : C.prog.inits.idxOf? f = none) (hfn : C.prog.funcs[f]? = some fn)
    (witness : ∃ (w : World) (tape : Tape) (i : Input), w.os = os ∧ (w.forCall tape i).Shaped C.prog ∧ i.vars = [] ∧ Input.okWide C.prog (w.forCall tape i) .any w.heap.size f i ∧
      ((s.pre enc C.prog fn conds apart (w.forCall tape i).memory i.args ∧ X (w.forCall tape i).memory i.args) ∧ sizedMet enc C.prog fn (OpenSpec.ofChange s) apart (w.forCall tape i).memory i.args) ∧ a.holds C.prog (lone (Frame.enter C.prog f i.args .normal) [] (w.forCall tape i)))
    (walk : ∀ (W : World) (base : Nat) (args : Array Value) (ds gs : List (DataW H)) (before : List MemPlace), W.ShapedOpen C.prog →
      (∀ (j : Nat) t v, fn.params[j]? = some t → args[j]? = some v → Value.okWide C.prog W .any base t v) →
      DataW.Whole enc C.prog fn.params.toList s.vars apart W args.toList ds gs before → X W args →
      Calls C.prog f args W fun e W' => ∃ v, e = .returned v ∧ s.post enc C.prog fn apart fresh handsOn again W args v W') :
    ReturnsInHanded a C os f .any (fun w args => (s.pre enc C.prog fn conds apart w args ∧ X w args) ∧ sizedMet enc C.prog fn (OpenSpec.ofChange s) apart w args) (s.post enc C.prog fn apart fresh handsOn again) := by
  refine returnsInHanded_of_calls own started noInit witness fun w tape i _ hsh _ hok hpre _ => ?_
  obtain ⟨_, _, _, g, hg, _, _, _, _, hv⟩ := hok
  obtain rfl : g = fn := Option.some.inj (hg.symm.trans hfn)
  obtain ⟨⟨⟨ds, gs, before, hwh, _⟩, hx⟩, _⟩ := hpre
  refine (walk (w.forCall tape i) w.heap.size i.args ds gs before hsh hv (hwh.of_heap (by rfl)) (hX _ _ _ (by rfl) hx)).mono fun e W' h => ?_
  obtain ⟨v, rfl, hp⟩ := h
  exact ChangeSpec.post_blind hp

theorem laid_metF (os : Os) (args : Array Value) : laidMetH Tryd.prog laidF ((World.laidAll Tryd.prog os laidF).forCall (fun _ _ => 0) ⟨#[], args, []⟩).memory := by
  rw [MakeChecks.laidMetH_plain _ _ _ (by kernel_rfl)]
  exact laidMet_laidAll _ (by kernel_rfl) (by kernel_rfl)

end Go.Proofs.YtojbaepcflkgeaaDoor
