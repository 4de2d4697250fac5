/-
  Walks of errors.As and plain.Told at errors that are joined: the first one is told.
-/
import Derived.Test.YtmidbhikhbbpbacDoorXg
import Derived.Test.YtmidbhikhbbpbacDoorXo
namespace Go.Proofs.YtmidbhikhbbpbacDoor
open Go.RowKit Go.Extern.Stop Go.Stop Go.Extern

theorem Tryd.typeOfJ (p : Addr) (w : World) : (ReflectliteType.typeOf #[.iface 110 (.pointer (some p))]).run Tryd.prog w = .ok (.iface 121 (.agg #[.pointer (some ⟨4, 110, none⟩)])) w := by kernel_rfl
theorem Tryd.assignableJ (w : World) : (ReflectliteType.relation "AssignableTo" ReflectliteType.assignableTo #[.agg #[.pointer (some ⟨4, 110, none⟩)], .iface 121 (.agg #[.pointer (some ⟨4, 26, none⟩)])]).run Tryd.prog w = .ok (.bool false) w := by kernel_rfl

set_option maxRecDepth 100000 in
set_option maxHeartbeats 4000000 in
theorem as_in (e : Int) (t a : Addr) (old : Value) (w : World) (ha : w.cell? a = some (.pointer (some t))) (ht0 : w.cell? t = some old) (hf0 : w.frozen? t = false) :
    Calls Tryd.prog 58 #[.iface 26 (.int .i64 e), .iface 74 (.pointer (some t)), .agg #[.pointer (some ⟨4, 74, none⟩), .pointer (some a), .int .u64 150], .iface 121 (.agg #[.pointer (some ⟨4, 26, none⟩)])] w fun ev w' => ev = .returned (.bool true) ∧ w' = ((w.alloc (.cells #[.pointer (some ⟨4, 74, none⟩), .pointer (some a), .int .u64 150] 99)).alloc (.cells #[.int .i64 e] 26)).setCell t (.int .i64 e) := by
  have h34 := @run_callFunc_extern Tryd.prog 55 _ (fun args => ReflectliteValue.unpack (args.getD 0 (.tuple #[]))) Tryd.func55 (by kernel_rfl) (by kernel_rfl) (by kernel_rfl) (by kernel_rfl)
  have h35 := @run_callFunc_extern Tryd.prog 56 _ (ReflectliteValue.methodAny (ReflectliteValue.valueError "reflectlite.Value.Type" 0) (fun t _ _ _ => ReflectliteType.toType t)) Tryd.func56 (by kernel_rfl) (by kernel_rfl) (by kernel_rfl) (by kernel_rfl)
  have h36 := @run_callFunc_extern Tryd.prog 57 _ (ReflectliteValue.method (ReflectliteValue.valueError "reflectlite.Value.IsNil" 0) ReflectliteValue.isNil) Tryd.func57 (by kernel_rfl) (by kernel_rfl) (by kernel_rfl) (by kernel_rfl)
  have h71 := @run_callFunc_extern Tryd.prog 111 _ (ReflectliteType.abiMethod fun t => do pure (.int .u8 (← Rtype.kind t))) Tryd.func111 (by kernel_rfl) (by kernel_rfl) (by kernel_rfl) (by kernel_rfl)
  have h82 := @run_callFunc_extern Tryd.prog 123 _ (ReflectliteType.method ReflectliteType.elem) Tryd.func123 (by kernel_rfl) (by kernel_rfl) (by kernel_rfl) (by kernel_rfl)
  have h83 := @run_callFunc_extern Tryd.prog 124 _ (ReflectliteType.relation "Implements" ReflectliteType.implements_) Tryd.func124 (by kernel_rfl) (by kernel_rfl) (by kernel_rfl) (by kernel_rfl)
  have h43 := @run_callFunc_extern Tryd.prog 66 _ ReflectliteType.typeOf Tryd.func66 (by kernel_rfl) (by kernel_rfl) (by kernel_rfl) (by kernel_rfl)
  have h80 := @run_callFunc_extern Tryd.prog 121 _ (ReflectliteType.relation "AssignableTo" ReflectliteType.assignableTo) Tryd.func121 (by kernel_rfl) (by kernel_rfl) (by kernel_rfl) (by kernel_rfl)
  have h44 := @run_callFunc_extern Tryd.prog 67 _ (ReflectliteValue.method (ReflectliteValue.valueError "reflectlite.Value.Elem" 0) ReflectliteValue.elem) Tryd.func67 (by kernel_rfl) (by kernel_rfl) (by kernel_rfl) (by kernel_rfl)
  have h45 := @run_callFunc_extern Tryd.prog 68 _ ReflectliteValue.set Tryd.func68 (by kernel_rfl) (by kernel_rfl) (by kernel_rfl) (by kernel_rfl)
  have tO := Tryd.typeOf23
  have mA := Tryd.methodAssignableTo
  have a23 := Tryd.assignable23
  have v23 := Tryd.valueOf23
  have f34 := Tryd.valueOf54
  have f35 := Tryd.type54
  have mK := Tryd.methodKind
  have mE := Tryd.methodElem
  have mI := Tryd.methodImplements
  have k54 := Tryd.kind54
  have k23 := Tryd.kind23
  have e54 := Tryd.elem54
  have i23 := Tryd.implements23
  have htl : t.block < w.heap.size := World.block_lt_of_cell? _ _ ht0
  have hal : a.block < w.heap.size := World.block_lt_of_cell? _ _ ha
  have el := Tryd.elemV54 a t (w.alloc (.cells #[.pointer (some ⟨4, 74, none⟩), .pointer (some a), .int .u64 150] 99)) (by rw [World.cell?_alloc_lt _ _ a hal]; exact ha)
  have st := Tryd.set23 t ⟨w.heap.size + 1, 0, none⟩ e old ((w.alloc (.cells #[.pointer (some ⟨4, 74, none⟩), .pointer (some a), .int .u64 150] 99)).alloc (.cells #[.int .i64 e] 26))
    (by rw [World.cell?_alloc_at _ _ _ _ (by simp)]; rfl)
    (by rw [World.cell?_alloc_lt _ _ t (by simp; omega), World.cell?_alloc_lt _ _ t htl]; exact ht0)
    (by rw [World.frozen?_alloc_old _ _ t (by simp; omega), World.frozen?_alloc_old _ _ t (Nat.ne_of_lt htl)]; exact hf0)
  go_enter Tryd.func58, Tryd.ntmps58
  go_wp2
  refine wp_loop_rounds 1 ?_
  rw [rounds_succ]
  go_wp2
  go_ret
  exact ⟨rfl, rfl⟩

theorem Tryd.assertAs (p : Addr) (w : World) : (Instr.typeAssert (.iface 110 (.pointer (some p))) 30 126 true).run Tryd.prog w = .ok (.tuple #[.nilIface, .bool false]) w := Go.run_typeAssert_lacksB Tryd.underlying126 (by kernel_rfl) (by kernel_rfl) _ _ _
theorem Tryd.assertOne (p : Addr) (w : World) : (Instr.typeAssert (.iface 110 (.pointer (some p))) 30 129 true).run Tryd.prog w = .ok (.tuple #[.nilIface, .bool false]) w := Go.run_typeAssert_lacksB Tryd.underlying129 (by kernel_rfl) (by kernel_rfl) _ _ _
theorem Tryd.assertMany (p : Addr) (w : World) : (Instr.typeAssert (.iface 110 (.pointer (some p))) 30 131 true).run Tryd.prog w = .ok (.tuple #[.iface 110 (.pointer (some p)), .bool true]) w := by kernel_rfl

theorem joinUnwrap (J : Nat) (v : Value) (w : World) (hJ : w.cell? ⟨J, 0, none⟩ = some v) : Calls Tryd.prog 119 #[.pointer (some ⟨J, 0, none⟩)] w fun ev w' => ev = .returned v ∧ w' = w := by
  go_enter Tryd.func119, Tryd.ntmps119
  go_wp2
  go_ret
  exact ⟨rfl, rfl⟩

theorem Tryd.methodUnwrap (p : Addr) (w : World) : (Go.method 295 110 (.pointer (some p)) "Unwrap").run Tryd.prog w = .ok (119, .pointer (some p)) w := by kernel_rfl

set_option maxRecDepth 100000 in
set_option maxHeartbeats 4000000 in
theorem as_join (e : Int) (J g m c : Nat) (t : Addr) (old : Value) (w : World) (hg : w.cell? ⟨0, 0, none⟩ = some (.iface 121 (.agg #[.pointer (some ⟨4, 30, none⟩)]))) (ht0 : w.cell? t = some old) (hf0 : w.frozen? t = false)
    (hJ : w.cell? ⟨J, 0, none⟩ = some (.slice (some ⟨g, 0, none⟩) m c)) (hm : 0 < m) (he : w.cell? ⟨g, 0, none⟩ = some (.iface 26 (.int .i64 e))) :
    Calls Tryd.prog 41 #[.iface 110 (.pointer (some ⟨J, 0, none⟩)), .iface 74 (.pointer (some t))] w fun ev w' => ev = .returned (.bool true) ∧ w' = (((((w.alloc (.cells #[.pointer (some t)] 74)).alloc (.cells #[.pointer (some ⟨4, 74, none⟩), .pointer (some ⟨w.heap.size, 0, none⟩), .int .u64 150] 99)).alloc (.cells #[.pointer (some ⟨4, 74, none⟩), .pointer (some ⟨w.heap.size, 0, none⟩), .int .u64 150] 99)).alloc (.cells #[.pointer (some ⟨4, 74, none⟩), .pointer (some ⟨w.heap.size, 0, none⟩), .int .u64 150] 99)).alloc (.cells #[.int .i64 e] 26)).setCell t (.int .i64 e) := by
  have h34 := @run_callFunc_extern Tryd.prog 55 _ (fun args => ReflectliteValue.unpack (args.getD 0 (.tuple #[]))) Tryd.func55 (by kernel_rfl) (by kernel_rfl) (by kernel_rfl) (by kernel_rfl)
  have h35 := @run_callFunc_extern Tryd.prog 56 _ (ReflectliteValue.methodAny (ReflectliteValue.valueError "reflectlite.Value.Type" 0) (fun t _ _ _ => ReflectliteType.toType t)) Tryd.func56 (by kernel_rfl) (by kernel_rfl) (by kernel_rfl) (by kernel_rfl)
  have h36 := @run_callFunc_extern Tryd.prog 57 _ (ReflectliteValue.method (ReflectliteValue.valueError "reflectlite.Value.IsNil" 0) ReflectliteValue.isNil) Tryd.func57 (by kernel_rfl) (by kernel_rfl) (by kernel_rfl) (by kernel_rfl)
  have h71 := @run_callFunc_extern Tryd.prog 111 _ (ReflectliteType.abiMethod fun t => do pure (.int .u8 (← Rtype.kind t))) Tryd.func111 (by kernel_rfl) (by kernel_rfl) (by kernel_rfl) (by kernel_rfl)
  have h82 := @run_callFunc_extern Tryd.prog 123 _ (ReflectliteType.method ReflectliteType.elem) Tryd.func123 (by kernel_rfl) (by kernel_rfl) (by kernel_rfl) (by kernel_rfl)
  have h83 := @run_callFunc_extern Tryd.prog 124 _ (ReflectliteType.relation "Implements" ReflectliteType.implements_) Tryd.func124 (by kernel_rfl) (by kernel_rfl) (by kernel_rfl) (by kernel_rfl)
  have h43 := @run_callFunc_extern Tryd.prog 66 _ ReflectliteType.typeOf Tryd.func66 (by kernel_rfl) (by kernel_rfl) (by kernel_rfl) (by kernel_rfl)
  have h80 := @run_callFunc_extern Tryd.prog 121 _ (ReflectliteType.relation "AssignableTo" ReflectliteType.assignableTo) Tryd.func121 (by kernel_rfl) (by kernel_rfl) (by kernel_rfl) (by kernel_rfl)
  have h44 := @run_callFunc_extern Tryd.prog 67 _ (ReflectliteValue.method (ReflectliteValue.valueError "reflectlite.Value.Elem" 0) ReflectliteValue.elem) Tryd.func67 (by kernel_rfl) (by kernel_rfl) (by kernel_rfl) (by kernel_rfl)
  have h45 := @run_callFunc_extern Tryd.prog 68 _ ReflectliteValue.set Tryd.func68 (by kernel_rfl) (by kernel_rfl) (by kernel_rfl) (by kernel_rfl)
  have tO := Tryd.typeOf23
  have mA := Tryd.methodAssignableTo
  have a23 := Tryd.assignable23
  have v23 := Tryd.valueOf23
  have f34 := Tryd.valueOf54
  have f35 := Tryd.type54
  have mK := Tryd.methodKind
  have mE := Tryd.methodElem
  have mI := Tryd.methodImplements
  have k54 := Tryd.kind54
  have k23 := Tryd.kind23
  have e54 := Tryd.elem54
  have i23 := Tryd.implements23
  have tOJ := Tryd.typeOfJ
  have aJ := Tryd.assignableJ
  have mU := Tryd.methodUnwrap
  have t1 := Tryd.assertAs
  have t2 := Tryd.assertOne
  have t3 := Tryd.assertMany
  have n36 := Tryd.isNil54 ⟨w.heap.size, 0, none⟩ t ((w.alloc (.cells #[.pointer (some t)] 74)).alloc (.cells #[.pointer (some ⟨4, 74, none⟩), .pointer (some ⟨w.heap.size, 0, none⟩), .int .u64 150] 99)) (by simp)
  have hlt : 0 < w.heap.size := World.block_lt_of_cell? _ _ hg
  have hg2 : ((w.alloc (.cells #[.pointer (some t)] 74)).alloc (.cells #[.pointer (some ⟨4, 74, none⟩), .pointer (some ⟨w.heap.size, 0, none⟩), .int .u64 150] 99)).cell? ⟨0, 0, none⟩ = some (.iface 121 (.agg #[.pointer (some ⟨4, 30, none⟩)])) := by
    rw [World.cell?_alloc_lt _ _ ⟨0, 0, none⟩ (by simp), World.cell?_alloc_lt _ _ ⟨0, 0, none⟩ hlt]; exact hg
  have htl : t.block < w.heap.size := World.block_lt_of_cell? _ _ ht0
  have hJl : J < w.heap.size := World.block_lt_of_cell? _ _ hJ
  have hgl : g < w.heap.size := World.block_lt_of_cell? _ _ he
  have hJ3 : (((w.alloc (.cells #[.pointer (some t)] 74)).alloc (.cells #[.pointer (some ⟨4, 74, none⟩), .pointer (some ⟨w.heap.size, 0, none⟩), .int .u64 150] 99)).alloc (.cells #[.pointer (some ⟨4, 74, none⟩), .pointer (some ⟨w.heap.size, 0, none⟩), .int .u64 150] 99)).cell? ⟨J, 0, none⟩ = some (.slice (some ⟨g, 0, none⟩) m c) := by
    rw [World.cell?_alloc_lt _ _ ⟨J, 0, none⟩ (by simp; omega), World.cell?_alloc_lt _ _ ⟨J, 0, none⟩ (by simp; omega), World.cell?_alloc_lt _ _ ⟨J, 0, none⟩ hJl]; exact hJ
  have he3 : (((w.alloc (.cells #[.pointer (some t)] 74)).alloc (.cells #[.pointer (some ⟨4, 74, none⟩), .pointer (some ⟨w.heap.size, 0, none⟩), .int .u64 150] 99)).alloc (.cells #[.pointer (some ⟨4, 74, none⟩), .pointer (some ⟨w.heap.size, 0, none⟩), .int .u64 150] 99)).cell? ⟨g, 0, none⟩ = some (.iface 26 (.int .i64 e)) := by
    rw [World.cell?_alloc_lt _ _ ⟨g, 0, none⟩ (by simp; omega), World.cell?_alloc_lt _ _ ⟨g, 0, none⟩ (by simp; omega), World.cell?_alloc_lt _ _ ⟨g, 0, none⟩ hgl]; exact he
  have hin := as_in e t ⟨w.heap.size, 0, none⟩ old (((w.alloc (.cells #[.pointer (some t)] 74)).alloc (.cells #[.pointer (some ⟨4, 74, none⟩), .pointer (some ⟨w.heap.size, 0, none⟩), .int .u64 150] 99)).alloc (.cells #[.pointer (some ⟨4, 74, none⟩), .pointer (some ⟨w.heap.size, 0, none⟩), .int .u64 150] 99))
    (by rw [World.cell?_alloc_lt _ _ ⟨w.heap.size, 0, none⟩ (by simp; omega), World.cell?_alloc_lt _ _ ⟨w.heap.size, 0, none⟩ (by simp)]; simp)
    (by rw [World.cell?_alloc_lt _ _ t (by simp; omega), World.cell?_alloc_lt _ _ t (by simp; omega), World.cell?_alloc_lt _ _ t htl]; exact ht0)
    (by rw [World.frozen?_alloc_old _ _ t (by simp; omega), World.frozen?_alloc_old _ _ t (by simp; omega), World.frozen?_alloc_old _ _ t (Nat.ne_of_lt htl)]; exact hf0)
  have hmi : (0 : Int) < m := by omega
  go_enter Tryd.func41, Tryd.ntmps41
  go_wp2
  refine wp_loop_rounds 1 ?_
  rw [rounds_succ]
  go_wp2
  refine wp_loop_rounds 1 ?_
  rw [rounds_succ]
  go_wp2_with (go_at_call 58; refine hin.mono ?_; rintro ev w' ⟨rfl, hw⟩; rw [hw])
  go_ret
  exact ⟨rfl, rfl⟩

set_option maxHeartbeats 1000000 in
theorem told_join (e : Int) (J g m c : Nat) (w : World) (hg : TypeLaid w) (hJ : w.cell? ⟨J, 0, none⟩ = some (.slice (some ⟨g, 0, none⟩) m c)) (hm : 0 < m) (he : w.cell? ⟨g, 0, none⟩ = some (.iface 26 (.int .i64 e))) :
    Calls Tryd.prog 23 #[.iface 110 (.pointer (some ⟨J, 0, none⟩))] w fun ev w' => ev = .returned (.int .i64 e) ∧ Below w.heap.size w w' := by
  have hb0 : Below w.heap.size w (w.alloc (.cells #[.int .i64 0] 26)) := (Below.refl _ _).alloc (Nat.le_refl _) _
  have hg1 : TypeLaid (w.alloc (.cells #[.int .i64 0] 26)) := hg.below hb0
  have has := as_join e J g m c ⟨w.heap.size, 0, none⟩ (.int .i64 0) (w.alloc (.cells #[.int .i64 0] 26)) hg1 (by simp) (by simp) (cell_later hb0 hJ) hm (cell_later hb0 he)
  have hx : ∃ W, W = ((((((w.alloc (.cells #[.int .i64 0] 26)).alloc (.cells #[.pointer (some ⟨w.heap.size, 0, none⟩)] 74)).alloc (.cells #[.pointer (some ⟨4, 74, none⟩), .pointer (some ⟨(w.alloc (.cells #[.int .i64 0] 26)).heap.size, 0, none⟩), .int .u64 150] 99)).alloc (.cells #[.pointer (some ⟨4, 74, none⟩), .pointer (some ⟨(w.alloc (.cells #[.int .i64 0] 26)).heap.size, 0, none⟩), .int .u64 150] 99)).alloc (.cells #[.pointer (some ⟨4, 74, none⟩), .pointer (some ⟨(w.alloc (.cells #[.int .i64 0] 26)).heap.size, 0, none⟩), .int .u64 150] 99)).alloc (.cells #[.int .i64 e] 26)) ∧ Below w.heap.size w W ∧ w.heap.size < W.heap.size ∧ W.cell? ⟨w.heap.size, 0, none⟩ = some (.int .i64 0) := by
    refine ⟨_, rfl, ?_, ?_, ?_⟩
    · exact ((((((Below.refl _ _).alloc (Nat.le_refl _) _).alloc (by simp) _).alloc (by simp; omega) _).alloc (by simp; omega) _).alloc (by simp; omega) _).alloc (by simp; omega) _
    · simp; omega
    · rw [World.cell?_alloc_lt _ _ ⟨w.heap.size, 0, none⟩ (by simp; omega), World.cell?_alloc_lt _ _ ⟨w.heap.size, 0, none⟩ (by simp; omega), World.cell?_alloc_lt _ _ ⟨w.heap.size, 0, none⟩ (by simp; omega), World.cell?_alloc_lt _ _ ⟨w.heap.size, 0, none⟩ (by simp; omega), World.cell?_alloc_lt _ _ ⟨w.heap.size, 0, none⟩ (by simp)]
      simp
  obtain ⟨W, hW, hb, hs, hc⟩ := hx
  rw [← hW] at has
  have hc2 : (W.setCell ⟨w.heap.size, 0, none⟩ (.int .i64 e)).cell? ⟨w.heap.size, 0, none⟩ = some (.int .i64 e) := World.cell?_setCell_same _ _ _ hc
  have hb2 : Below w.heap.size w (W.setCell ⟨w.heap.size, 0, none⟩ (.int .i64 e)) := hb.setCell (Nat.le_refl _) _
  clear hW
  obtain ⟨W2, hW2⟩ : ∃ W2, W2 = W.setCell ⟨w.heap.size, 0, none⟩ (.int .i64 e) := ⟨_, rfl⟩
  rw [← hW2] at has hc2 hb2
  clear hW2 hc hs hb hJ he hb0
  go_enter Tryd.func23, Tryd.ntmps23
  go_wp2_with (go_at_call 41; refine has.mono ?_; rintro ev w' ⟨rfl, hw⟩; rw [hw])
  go_ret
  exact ⟨rfl, hb2⟩

set_option maxHeartbeats 400000 in
theorem error_join (e : Int) (J g m c : Nat) (w : World) (hg : TypeLaid w) (hJ : w.cell? ⟨J, 0, none⟩ = some (.slice (some ⟨g, 0, none⟩) m c)) (hm : 0 < m) (he : w.cell? ⟨g, 0, none⟩ = some (.iface 26 (.int .i64 e))) :
    Calls Tryd.prog 8 #[.iface 110 (.pointer (some ⟨J, 0, none⟩)), .int .i64 e] w fun ev w' => ev = .returned (.bool true) ∧ Below w.heap.size w w' := by
  have ht := told_join e J g m c w hg hJ hm he
  clear hg hJ he
  go_enter Tryd.func8, Tryd.ntmps8
  go_wp2_with (go_at_call 23; refine ht.mono ?_)
  rintro ev w' ⟨rfl, hb⟩
  go_wp2
  go_ret
  exact ⟨ret_b (by simp), hb⟩

end Go.Proofs.YtmidbhikhbbpbacDoor
