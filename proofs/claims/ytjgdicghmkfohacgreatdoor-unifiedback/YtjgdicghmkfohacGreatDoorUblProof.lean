/-
  UnifiedBack of the seat, proved in full: for every list of hunks, every number and every text the law returns true, and each argument reads behind the call as it read before. The row lists errors.errorType, two of strconv's errors and five of the library's tables; the card ties them to the program's text by the given tie.
-/
import Derived.Test.YtjgdicghmkfohacGreatDoorCards
import Derived.Test.YtjgdicghmkfohacGreatDoorTie
import Derived.Test.YtjgdicghmkfohacGreatDoorUbl
import Derived.Test.YtjgdicghmkfohacGreatDoorArgs
import Derived.Test.YtjgdicghmkfohacGreatDoorHArgs
import Derived.WalkKit
import Derived.ProofKit
import Derived.OpenShut
import Derived.ShutString
import Derived.ChangeOld
import Derived.Below
import Derived.SliceStrings
import Derived.SizedLaws
import Derived.Deep.DeepHandedRow
import Derived.LaidLaws
import Derived.LaidHandle
import Derived.Lib.LaidU8
import Derived.Shelf.Vars
import Derived.Lay

namespace Go.Proofs.YtjgdicghmkfohacGreatDoor.unifiedBack
open Go.ChangeShapes Go.WideShapes Go.ChangeAt Go.RowKit
open Go.ChangeMaps (open_string shut_string)

theorem own : ownKnob Tryz.prog.godebug = none := by kernel_rfl
theorem laidOut : laidOutB Tryz.prog = true := by kernel_rfl
theorem et : Tryz.prog.globalNamed "errors.errorType" = some 0 := by kernel_rfl
theorem oneRow : ((List.range 262).filter fun t => Tryz.prog.rowNamed t [101, 114, 114, 111, 114]) = [28] := by kernel_rfl
theorem typesSize : Tryz.prog.types.size = 262 := by kernel_rfl
theorem handled : (Rows.unifiedBackRow.laid.filter fun x => x.2.handleName?.isSome) = [("errors.errorType", Rows.laid_errors_errorType)] := by kernel_rfl
theorem funcsNone : (Rows.laid_errors_errorType : DataW Unit).funcsIn? = none := by kernel_rfl
theorem nameOf : (Rows.laid_errors_errorType : DataW Unit).handleName? = some [101, 114, 114, 111, 114] := by kernel_rfl

/-- What the row's list gives the walks: errors.errorType's one cell. -/
theorem laid_type {W : World} (h : laidMetH Tryz.prog Rows.unifiedBackRow.laid W) : TypeLaid W := by
  unfold laidMetH at h
  rw [handled] at h
  have h2 := h.2 _ (List.mem_singleton.2 rfl)
  rw [funcsNone] at h2
  obtain ⟨name, u, ty, e1, e2, e3, e4, e5⟩ := h2
  obtain rfl := Option.some.inj (nameOf.symm.trans e1)
  obtain rfl : u = 168 := Option.some.inj (e2.symm.trans (by kernel_rfl))
  have hm : ty ∈ (List.range 262).filter fun t => Tryz.prog.rowNamed t [101, 114, 114, 111, 114] := List.mem_filter.2 ⟨List.mem_range.2 (by rw [← typesSize]; exact e3), e4⟩
  rw [oneRow] at hm
  obtain rfl := List.mem_singleton.1 hm
  have hh : typeHandle Tryz.prog 28 = .pointer (some ⟨9, 28, none⟩) := by kernel_rfl
  rw [hh] at e5
  have := World.var?_cell et e5 0
  simpa [TypeLaid] using this

/-- The tables and the errors. -/
def tables : List (String × DataW Unit) := Rows.unifiedBackRow.laid.filter fun x => x.2.handleName?.isNone
theorem tables_eq : (Rows.unifiedBackRow.laid.filter fun x => x.2.handleName?.isNone) = tables := rfl

theorem tabMem : (Rows.unifiedBackRow.named.getD 1 "", (Rows.laid_internal_strconv_uint64pow10 : DataW Unit)) ∈ tables := List.mem_of_getElem? (i := 2) rfl
theorem synMem : ("strconv.ErrSyntax", (Rows.laid_strconv_ErrSyntax : DataW Unit)) ∈ tables := List.mem_of_getElem? (i := 5) rfl
theorem tabNamed : Tryz.prog.globalNamed (Rows.unifiedBackRow.named.getD 1 "") = some 4 := by kernel_rfl
theorem synNamed : Tryz.prog.globalNamed "strconv.ErrSyntax" = some 7 := by kernel_rfl
theorem tabType : (Tryz.prog.globals[(4 : Nat)]?).map (·.type) = some 215 := by kernel_rfl
theorem synType : (Tryz.prog.globals[(7 : Nat)]?).map (·.type) = some 28 := by kernel_rfl
theorem tabData : (Rows.laid_internal_strconv_uint64pow10 : DataW Unit) = Lib.tabData .u64 Lib.pow10Tab := by kernel_rfl

/-- What the row's list, and that the variables have their types, give the walks. -/
theorem laid_vars {W : World} (h : laidMetH Tryz.prog Rows.unifiedBackRow.laid W) (hs : W.ShapedOpen Tryz.prog) : Gs W := by
  unfold laidMetH at h
  rw [handled] at h
  have h1 := h.1
  rw [tables_eq] at h1
  refine ⟨Go.Proofs.cell_of_shapedOpen_int (zero := #[.int .i64 0]) (t := 3) hs (of_decide_eq_true (by kernel_rfl)) (by kernel_rfl) rfl (by kernel_rfl) (by kernel_rfl) Tryz.underlying3, ?_, ?_⟩
  · obtain ⟨g, t, cs, fuel, p, e1, e2, e3, e4⟩ := Lib.laidMet.reads h1 synMem
    obtain rfl : g = 7 := Option.some.inj (e1.symm.trans synNamed)
    obtain rfl : t = 28 := Option.some.inj (e2.symm.trans synType)
    obtain ⟨_, u, v, hcs, _⟩ := iface_of_trod Tryz.underlying28 e4
    have hc := World.var?_cell synNamed e3 0
    rw [← Array.getElem?_toList, hcs] at hc
    exact ⟨_, hc, .inr ⟨u, v, rfl⟩⟩
  · obtain ⟨g, t, cs, fuel, p, e1, e2, e3, e4⟩ := Lib.laidMet.reads h1 tabMem
    obtain rfl : g = 4 := Option.some.inj (e1.symm.trans tabNamed)
    obtain rfl : t = 215 := Option.some.inj (e2.symm.trans tabType)
    rw [tabData] at e4
    have hcs := Lib.cells_of_tab Tryz.underlying215 Tryz.underlying202 (by kernel_rfl) (by kernel_rfl) e4
    unfold World.var? at e3
    rw [tabNamed, Option.bind_some] at e3
    split at e3
    · rename_i c t fr hh
      simp only [Option.some.injEq] at e3
      subst e3
      exact ⟨t, fr, by rw [hh, ← hcs]⟩
    · cases e3

set_option maxRecDepth 100000 in
theorem contract (H : Type) (enc : TypeId × Value → H) (W : World) (base : Nat) (args : Array Value) (ds gs : List (DataW H)) (before : List MemPlace)
    (hval : ∀ (j : Nat) t v, Tryz.f4.params[j]? = some t → args[j]? = some v → Value.okWide Tryz.prog W .any base t v)
    (hW : DataW.Whole enc Tryz.prog Tryz.f4.params.toList Rows.unifiedBackSpec.vars false W args.toList ds gs before)
    (hL : laidMetH Tryz.prog Rows.unifiedBackRow.laid W) (hs : W.ShapedOpen Tryz.prog) :
    Calls Tryz.prog 4 args W fun e W' => ∃ v, e = .returned v ∧ Rows.unifiedBackSpec.post enc Tryz.prog Tryz.f4 false true false false W args v W' := by
  have hW' := hW
  obtain ⟨p, q, hA0, hV, rfl, hfz, hnd⟩ := hW
  have hA : DataW.TrodAll enc Tryz.prog W 0 (fun _ => true) true Tryz.f4.params.toList args.toList ds p := hA0
  rw [Tryz.params4] at hA hval
  obtain ⟨v0, v1, v2, d0, d1, d2, p0, p1, p2, rfl, rfl, rfl, h0, h1, h2⟩ := trodAll_three hA
  obtain ⟨rfl, rfl⟩ := trodVars_none hV
  obtain ⟨a0, len0, cap0, rfl⟩ := okWide_slice Tryz.underlying22 (hval 0 22 v0 rfl rfl)
  have hv1 := hval 1 3 v1 rfl rfl
  obtain ⟨n1, rfl⟩ := okWide_int Tryz.underlying3 hv1
  have lt0 : ∀ x ∈ p0, x.block < W.heap.size := by obtain ⟨m, hm⟩ := h0; exact DataW.trod_lt m _ _ _ hm
  have lt1 : ∀ x ∈ p1, x.block < W.heap.size := by obtain ⟨m, hm⟩ := h1; exact DataW.trod_lt m _ _ _ hm
  obtain ⟨l, rfl, hm, hks, hms, _⟩ := hks_of h0
  obtain ⟨s, rfl, rfl, rfl, ws⟩ := open_string Tryz.underlying9 (hval 2 9 v2 rfl rfl) h2
  have hr : -9223372036854775808 ≤ n1 ∧ n1 ≤ 9223372036854775807 := by
    simp only [Value.okWide, Tryz.underlying3, Cell.okWide, Cell.ok, IntKind.has] at hv1
    have e1 : IntKind.i64.min = -9223372036854775808 := by decide
    have e2 : IntKind.i64.max = 9223372036854775807 := by decide
    simpa [e1, e2] using hv1
  refine (back_any a0 l cap0 n1 s W hks hm hms hr.1 hr.2 ws (laid_vars hL hs) (laid_type hL)).mono fun e W' ⟨he, bel⟩ => ?_
  subst he
  exact ⟨_, rfl, _, _, _, [], _, [], hW', trodAll_mk1 (shut_bool Tryz.underlying4 _), trodAll_mk3 (Below.trod laidOut (by kernel_rfl) (of_decide_eq_true (by kernel_rfl)) h0 bel lt0) (Below.trod laidOut (by kernel_rfl) (of_decide_eq_true (by kernel_rfl)) h1 bel lt1) (shut_string Tryz.underlying9 ws), rfl, bel.frame _, fun h => by cases h⟩

/-- A world for the witness: the settled one, errors.errorType's cell laid, and the tables and the errors. -/
def handWorld (P : Program) (os : Os) : World :=
  { World.holding P os ⟨#[], #[], []⟩ with heap := (World.holding P os ⟨#[], #[], []⟩).heap.modify 0 fun
      | .cells _ t frozen => .cells #[.iface 168 (.agg #[.pointer (some ⟨9, 28, none⟩)])] t frozen
      | o => o }
def laidWorld (P : Program) (os : Os) : World := (handWorld P os).layVars P tables

set_option maxRecDepth 100000 in
theorem tables_met (os : Os) (args : Array Value) : laidMet Tryz.prog tables ((laidWorld Tryz.prog os).forCall (fun _ _ => 0) ⟨#[], args, []⟩).memory := by
  have e1 : (tables.filter fun x => (tables.map (·.1)).contains x.1) = tables := List.filter_eq_self.2 fun x hx => List.contains_iff_mem.2 (List.mem_map.2 ⟨x, hx, rfl⟩)
  have e2 : (tables.filter fun x => !(tables.map (·.1)).contains x.1) = [] := List.filter_eq_nil_iff.2 fun x hx => by rw [List.contains_iff_mem.2 (List.mem_map.2 ⟨x, hx, rfl⟩)]; simp
  have h : laidMet Tryz.prog tables (laidWorld Tryz.prog os) := laidMet_layVars (w0 := handWorld Tryz.prog os) (tables.map (·.1)) [] (by rw [e1]; rfl) (by rw [e1]; kernel_rfl) (by rw [e1]; kernel_rfl) (by rw [e2]; exact LaidIn.none)
  exact h.of_heap (by simp [World.memory, World.forCall, Input.heap])

set_option maxRecDepth 100000 in
theorem laid_met (os : Os) (args : Array Value) : laidMetH Tryz.prog Rows.unifiedBackRow.laid ((laidWorld Tryz.prog os).forCall (fun _ _ => 0) ⟨#[], args, []⟩).memory :=
  laidMetH_of_parts (by rw [tables_eq]; exact tables_met os args) (by rw [handled]; kernel_rfl)

theorem reads (os : Os) {H : Type} (enc : TypeId × Value → H) : ∃ places, DataW.whole enc Tryz.prog ((laidWorld Tryz.prog os).forCall (fun _ _ => 0) ⟨#[], #[.slice none 0 0, .int .i64 0, .string ByteArray.empty], []⟩).memory Tryz.f4.params.toList Rows.unifiedBackSpec.vars false #[Value.slice none 0 0, Value.int .i64 0, Value.string ByteArray.empty].toList 8 = some ([.nil, .lit (.int .i64 0), .lit (.string [])], [], places) :=
  ⟨[], by kernel_rfl⟩

set_option maxRecDepth 100000 in
theorem lifted (os : Os) (started : os.Started) (H : Type) (enc : TypeId × Value → H) (F : Stop.Interp) :
    ReturnsInHanded {} Tryz.checked os 4 .any ((OpenSpec.ofChange Rows.unifiedBackSpec).preRow enc Tryz.prog Tryz.f4 Rows.unifiedBackRow.domain false Rows.unifiedBackRow.laid) (((OpenSpec.ofChange Rows.unifiedBackSpec).at F).post enc Tryz.prog Tryz.f4 false true false false) := by
  obtain ⟨places, hx⟩ := reads os enc
  refine returnsInHanded_of_row (C := Tryz.checked) (s := OpenSpec.ofChange Rows.unifiedBackSpec) own started (by kernel_rfl) Tryz.func4
    (witness_row_at (enc := enc) (C := Tryz.checked) false (laidWorld Tryz.prog os) #[.slice none 0 0, .int .i64 0, .string ByteArray.empty] (World.layVars_os _ _ _) (by kernel_rfl) (by kernel_rfl) (by kernel_rfl)
      (OpenSpec.preRow_of_cond 8 hx (by kernel_rfl) (fun k hk => by cases hk) (by kernel_rfl) (laid_met os _))) ?_
  intro W base args ds gs before hval hW _ _ _ hL hs _
  exact contract H enc W base args ds gs before hval hW hL hs

theorem said : Rows.UnifiedBackSaid :=
  OpenClaim.holds_of_cond 4 Tryz.f4 rfl rfl rfl rfl rfl rfl rfl ⟨rfl, rfl, rfl, rfl, rfl⟩ rfl rfl rfl rfl rfl (by kernel_rfl) Tryz.func4 (by kernel_rfl)
    (of_decide_eq_true (by kernel_rfl)) (by unfold Func.isWrapper; first | (rw [if_pos (by decide +kernel)]; kernel_rfl) | (rw [if_neg (by decide +kernel)]; exact ⟨rfl, rfl⟩))
    (fun os started H enc _ F => by rw [OpenClaim.pre_eq_preRow]; exact lifted os started H enc F)

theorem plain (f : FuncId) (fn : Func) (hf : Tryz.pinned.checked.prog.funcNamed Rows.unifiedBackRow.func = some f) (hfn : Tryz.pinned.checked.prog.funcs[f]? = some fn) :
    true = Tryz.pinned.checked.prog.looks [] ∧ ∀ (j : Nat) t, fn.params[j]? = some t → Tryz.pinned.checked.prog.wantsStandIn t = false := by
  obtain rfl : f = 4 := Option.some.inj ((show Tryz.prog.funcNamed Rows.unifiedBackRow.func = some 4 by kernel_rfl).symm.trans hf) |>.symm
  obtain rfl : fn = Tryz.f4 := (Option.some.inj (Tryz.func4.symm.trans hfn)).symm
  refine ⟨by kernel_rfl, fun j t ht => ?_⟩
  rw [Tryz.params4] at ht
  have hm : t ∈ [22, 3, 9] := by simpa using Array.mem_of_getElem? ht
  have hall : ([22, 3, 9].all fun u => !Tryz.prog.wantsStandIn u) = true := by kernel_rfl
  exact (show Tryz.prog.wantsStandIn t = false by simpa using List.all_eq_true.1 hall t hm)

end Go.Proofs.YtjgdicghmkfohacGreatDoor.unifiedBack

namespace Go.Proofs.YtjgdicghmkfohacGreatDoor
open Go

theorem unifiedBack_card : Rows.UnifiedBackCardSaid :=
  Claim7.holds_tied_plain_at .later [] _ _ _ _ unifiedBack.said (fun _ h => by cases h) (by kernel_rfl) (fun _ h => by cases h) unifiedBack_row_tie rfl ⟨rfl, rfl⟩ (by kernel_rfl) rfl unifiedBack.plain (by kernel_rfl)
#print axioms unifiedBack_card

end Go.Proofs.YtjgdicghmkfohacGreatDoor
