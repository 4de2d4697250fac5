/-
  Walks of errors.As and plain.Told at errors that are joined: the first one is told. What S.Error says of an error that tells a fault.
-/
import Derived.Test.YtnkdmgekpajfhadGreatDoorXg
import Derived.Test.YtnkdmgekpajfhadGreatDoorXbe
import Derived.Test.YtnkdmgekpajfhadGreatDoorXu

namespace Go.Proofs.YtnkdmgekpajfhadGreatDoor
open Go.RowKit Go.Extern.Stop Go.Stop Go.Extern

theorem Tryz.typeOfJ (p : Addr) (w : World) : (ReflectliteType.typeOf #[.iface 205 (.pointer (some p))]).run Tryz.prog w = .ok (.iface 180 (.agg #[.pointer (some ⟨9, 205, none⟩)])) w := by kernel_rfl
theorem Tryz.assignableJ (w : World) : (ReflectliteType.relation "AssignableTo" ReflectliteType.assignableTo #[.agg #[.pointer (some ⟨9, 205, none⟩)], .iface 180 (.agg #[.pointer (some ⟨9, 23, none⟩)])]).run Tryz.prog w = .ok (.bool false) w := by kernel_rfl

set_option maxRecDepth 100000 in
set_option maxHeartbeats 4000000 in
theorem as_in (e : Int) (t a : Addr) (old : Value) (w : World) (ha : w.cell? a = some (.pointer (some t))) (ht0 : w.cell? t = some old) (hf0 : w.frozen? t = false) :
    Calls Tryz.prog 84 #[.iface 23 (.int .i64 e), .iface 106 (.pointer (some t)), .agg #[.pointer (some ⟨9, 106, none⟩), .pointer (some a), .int .u64 150], .iface 180 (.agg #[.pointer (some ⟨9, 23, none⟩)])] w fun ev w' => ev = .returned (.bool true) ∧ w' = ((w.alloc (.cells #[.pointer (some ⟨9, 106, none⟩), .pointer (some a), .int .u64 150] 138)).alloc (.cells #[.int .i64 e] 23)).setCell t (.int .i64 e) := by
  have h34 := @run_callFunc_extern Tryz.prog 81 _ (fun args => ReflectliteValue.unpack (args.getD 0 (.tuple #[]))) Tryz.func81 (by kernel_rfl) (by kernel_rfl) (by kernel_rfl) (by kernel_rfl)
  have h35 := @run_callFunc_extern Tryz.prog 82 _ (ReflectliteValue.methodAny (ReflectliteValue.valueError "reflectlite.Value.Type" 0) (fun t _ _ _ => ReflectliteType.toType t)) Tryz.func82 (by kernel_rfl) (by kernel_rfl) (by kernel_rfl) (by kernel_rfl)
  have h36 := @run_callFunc_extern Tryz.prog 83 _ (ReflectliteValue.method (ReflectliteValue.valueError "reflectlite.Value.IsNil" 0) ReflectliteValue.isNil) Tryz.func83 (by kernel_rfl) (by kernel_rfl) (by kernel_rfl) (by kernel_rfl)
  have h71 := @run_callFunc_extern Tryz.prog 212 _ (ReflectliteType.abiMethod fun t => do pure (.int .u8 (← Rtype.kind t))) Tryz.func212 (by kernel_rfl) (by kernel_rfl) (by kernel_rfl) (by kernel_rfl)
  have h82 := @run_callFunc_extern Tryz.prog 223 _ (ReflectliteType.method ReflectliteType.elem) Tryz.func223 (by kernel_rfl) (by kernel_rfl) (by kernel_rfl) (by kernel_rfl)
  have h83 := @run_callFunc_extern Tryz.prog 224 _ (ReflectliteType.relation "Implements" ReflectliteType.implements_) Tryz.func224 (by kernel_rfl) (by kernel_rfl) (by kernel_rfl) (by kernel_rfl)
  have h43 := @run_callFunc_extern Tryz.prog 112 _ ReflectliteType.typeOf Tryz.func112 (by kernel_rfl) (by kernel_rfl) (by kernel_rfl) (by kernel_rfl)
  have h80 := @run_callFunc_extern Tryz.prog 221 _ (ReflectliteType.relation "AssignableTo" ReflectliteType.assignableTo) Tryz.func221 (by kernel_rfl) (by kernel_rfl) (by kernel_rfl) (by kernel_rfl)
  have h44 := @run_callFunc_extern Tryz.prog 113 _ (ReflectliteValue.method (ReflectliteValue.valueError "reflectlite.Value.Elem" 0) ReflectliteValue.elem) Tryz.func113 (by kernel_rfl) (by kernel_rfl) (by kernel_rfl) (by kernel_rfl)
  have h45 := @run_callFunc_extern Tryz.prog 114 _ ReflectliteValue.set Tryz.func114 (by kernel_rfl) (by kernel_rfl) (by kernel_rfl) (by kernel_rfl)
  have tO := Tryz.typeOf23
  have mA := Tryz.methodAssignableTo
  have a23 := Tryz.assignable23
  have v23 := Tryz.valueOf23
  have f34 := Tryz.valueOf54
  have f35 := Tryz.type54
  have mK := Tryz.methodKind
  have mE := Tryz.methodElem
  have mI := Tryz.methodImplements
  have k54 := Tryz.kind54
  have k23 := Tryz.kind23
  have e54 := Tryz.elem54
  have i23 := Tryz.implements23
  have htl : t.block < w.heap.size := World.block_lt_of_cell? _ _ ht0
  have hal : a.block < w.heap.size := World.block_lt_of_cell? _ _ ha
  have el := Tryz.elemV54 a t (w.alloc (.cells #[.pointer (some ⟨9, 106, none⟩), .pointer (some a), .int .u64 150] 138)) (by rw [World.cell?_alloc_lt _ _ a hal]; exact ha)
  have st := Tryz.set23 t ⟨w.heap.size + 1, 0, none⟩ e old ((w.alloc (.cells #[.pointer (some ⟨9, 106, none⟩), .pointer (some a), .int .u64 150] 138)).alloc (.cells #[.int .i64 e] 23))
    (by rw [World.cell?_alloc_at _ _ _ _ (by simp)]; rfl)
    (by rw [World.cell?_alloc_lt _ _ t (by simp; omega), World.cell?_alloc_lt _ _ t htl]; exact ht0)
    (by rw [World.frozen?_alloc_old _ _ t (by simp; omega), World.frozen?_alloc_old _ _ t (Nat.ne_of_lt htl)]; exact hf0)
  go_enter Tryz.func84, Tryz.ntmps84
  go_wp2
  refine wp_loop_rounds 1 ?_
  rw [rounds_succ]
  go_wp2
  go_ret
  exact ⟨rfl, rfl⟩

theorem Tryz.assertAs (p : Addr) (w : World) : (Instr.typeAssert (.iface 205 (.pointer (some p))) 28 185 true).run Tryz.prog w = .ok (.tuple #[.nilIface, .bool false]) w := Go.run_typeAssert_lacksB Tryz.underlying185 (by kernel_rfl) (by kernel_rfl) _ _ _
theorem Tryz.assertOne (p : Addr) (w : World) : (Instr.typeAssert (.iface 205 (.pointer (some p))) 28 188 true).run Tryz.prog w = .ok (.tuple #[.nilIface, .bool false]) w := Go.run_typeAssert_lacksB Tryz.underlying188 (by kernel_rfl) (by kernel_rfl) _ _ _
theorem Tryz.assertMany (p : Addr) (w : World) : (Instr.typeAssert (.iface 205 (.pointer (some p))) 28 190 true).run Tryz.prog w = .ok (.tuple #[.iface 205 (.pointer (some p)), .bool true]) w := by kernel_rfl

theorem Tryz.methodUnwrap (p : Addr) (w : World) : (Go.method 409 205 (.pointer (some p)) "Unwrap").run Tryz.prog w = .ok (232, .pointer (some p)) w := by kernel_rfl

set_option maxRecDepth 100000 in
set_option maxHeartbeats 4000000 in
theorem as_join (e : Int) (J g m c : Nat) (t : Addr) (old : Value) (w : World) (hg : w.cell? ⟨0, 0, none⟩ = some (.iface 180 (.agg #[.pointer (some ⟨9, 28, none⟩)]))) (ht0 : w.cell? t = some old) (hf0 : w.frozen? t = false)
    (hJ : w.cell? ⟨J, 0, none⟩ = some (.slice (some ⟨g, 0, none⟩) m c)) (hm : 0 < m) (he : w.cell? ⟨g, 0, none⟩ = some (.iface 23 (.int .i64 e))) :
    Calls Tryz.prog 56 #[.iface 205 (.pointer (some ⟨J, 0, none⟩)), .iface 106 (.pointer (some t))] w fun ev w' => ev = .returned (.bool true) ∧ w' = (((((w.alloc (.cells #[.pointer (some t)] 106)).alloc (.cells #[.pointer (some ⟨9, 106, none⟩), .pointer (some ⟨w.heap.size, 0, none⟩), .int .u64 150] 138)).alloc (.cells #[.pointer (some ⟨9, 106, none⟩), .pointer (some ⟨w.heap.size, 0, none⟩), .int .u64 150] 138)).alloc (.cells #[.pointer (some ⟨9, 106, none⟩), .pointer (some ⟨w.heap.size, 0, none⟩), .int .u64 150] 138)).alloc (.cells #[.int .i64 e] 23)).setCell t (.int .i64 e) := by
  have h34 := @run_callFunc_extern Tryz.prog 81 _ (fun args => ReflectliteValue.unpack (args.getD 0 (.tuple #[]))) Tryz.func81 (by kernel_rfl) (by kernel_rfl) (by kernel_rfl) (by kernel_rfl)
  have h35 := @run_callFunc_extern Tryz.prog 82 _ (ReflectliteValue.methodAny (ReflectliteValue.valueError "reflectlite.Value.Type" 0) (fun t _ _ _ => ReflectliteType.toType t)) Tryz.func82 (by kernel_rfl) (by kernel_rfl) (by kernel_rfl) (by kernel_rfl)
  have h36 := @run_callFunc_extern Tryz.prog 83 _ (ReflectliteValue.method (ReflectliteValue.valueError "reflectlite.Value.IsNil" 0) ReflectliteValue.isNil) Tryz.func83 (by kernel_rfl) (by kernel_rfl) (by kernel_rfl) (by kernel_rfl)
  have h71 := @run_callFunc_extern Tryz.prog 212 _ (ReflectliteType.abiMethod fun t => do pure (.int .u8 (← Rtype.kind t))) Tryz.func212 (by kernel_rfl) (by kernel_rfl) (by kernel_rfl) (by kernel_rfl)
  have h82 := @run_callFunc_extern Tryz.prog 223 _ (ReflectliteType.method ReflectliteType.elem) Tryz.func223 (by kernel_rfl) (by kernel_rfl) (by kernel_rfl) (by kernel_rfl)
  have h83 := @run_callFunc_extern Tryz.prog 224 _ (ReflectliteType.relation "Implements" ReflectliteType.implements_) Tryz.func224 (by kernel_rfl) (by kernel_rfl) (by kernel_rfl) (by kernel_rfl)
  have h43 := @run_callFunc_extern Tryz.prog 112 _ ReflectliteType.typeOf Tryz.func112 (by kernel_rfl) (by kernel_rfl) (by kernel_rfl) (by kernel_rfl)
  have h80 := @run_callFunc_extern Tryz.prog 221 _ (ReflectliteType.relation "AssignableTo" ReflectliteType.assignableTo) Tryz.func221 (by kernel_rfl) (by kernel_rfl) (by kernel_rfl) (by kernel_rfl)
  have h44 := @run_callFunc_extern Tryz.prog 113 _ (ReflectliteValue.method (ReflectliteValue.valueError "reflectlite.Value.Elem" 0) ReflectliteValue.elem) Tryz.func113 (by kernel_rfl) (by kernel_rfl) (by kernel_rfl) (by kernel_rfl)
  have h45 := @run_callFunc_extern Tryz.prog 114 _ ReflectliteValue.set Tryz.func114 (by kernel_rfl) (by kernel_rfl) (by kernel_rfl) (by kernel_rfl)
  have tO := Tryz.typeOf23
  have mA := Tryz.methodAssignableTo
  have a23 := Tryz.assignable23
  have v23 := Tryz.valueOf23
  have f34 := Tryz.valueOf54
  have f35 := Tryz.type54
  have mK := Tryz.methodKind
  have mE := Tryz.methodElem
  have mI := Tryz.methodImplements
  have k54 := Tryz.kind54
  have k23 := Tryz.kind23
  have e54 := Tryz.elem54
  have i23 := Tryz.implements23
  have tOJ := Tryz.typeOfJ
  have aJ := Tryz.assignableJ
  have mU := Tryz.methodUnwrap
  have t1 := Tryz.assertAs
  have t2 := Tryz.assertOne
  have t3 := Tryz.assertMany
  have n36 := Tryz.isNil54 ⟨w.heap.size, 0, none⟩ t ((w.alloc (.cells #[.pointer (some t)] 106)).alloc (.cells #[.pointer (some ⟨9, 106, none⟩), .pointer (some ⟨w.heap.size, 0, none⟩), .int .u64 150] 138)) (by simp)
  have hlt : 0 < w.heap.size := World.block_lt_of_cell? _ _ hg
  have hg2 : ((w.alloc (.cells #[.pointer (some t)] 106)).alloc (.cells #[.pointer (some ⟨9, 106, none⟩), .pointer (some ⟨w.heap.size, 0, none⟩), .int .u64 150] 138)).cell? ⟨0, 0, none⟩ = some (.iface 180 (.agg #[.pointer (some ⟨9, 28, none⟩)])) := by
    rw [World.cell?_alloc_lt _ _ ⟨0, 0, none⟩ (by simp), World.cell?_alloc_lt _ _ ⟨0, 0, none⟩ hlt]; exact hg
  have htl : t.block < w.heap.size := World.block_lt_of_cell? _ _ ht0
  have hJl : J < w.heap.size := World.block_lt_of_cell? _ _ hJ
  have hgl : g < w.heap.size := World.block_lt_of_cell? _ _ he
  have hJ3 : (((w.alloc (.cells #[.pointer (some t)] 106)).alloc (.cells #[.pointer (some ⟨9, 106, none⟩), .pointer (some ⟨w.heap.size, 0, none⟩), .int .u64 150] 138)).alloc (.cells #[.pointer (some ⟨9, 106, none⟩), .pointer (some ⟨w.heap.size, 0, none⟩), .int .u64 150] 138)).cell? ⟨J, 0, none⟩ = some (.slice (some ⟨g, 0, none⟩) m c) := by
    rw [World.cell?_alloc_lt _ _ ⟨J, 0, none⟩ (by simp; omega), World.cell?_alloc_lt _ _ ⟨J, 0, none⟩ (by simp; omega), World.cell?_alloc_lt _ _ ⟨J, 0, none⟩ hJl]; exact hJ
  have he3 : (((w.alloc (.cells #[.pointer (some t)] 106)).alloc (.cells #[.pointer (some ⟨9, 106, none⟩), .pointer (some ⟨w.heap.size, 0, none⟩), .int .u64 150] 138)).alloc (.cells #[.pointer (some ⟨9, 106, none⟩), .pointer (some ⟨w.heap.size, 0, none⟩), .int .u64 150] 138)).cell? ⟨g, 0, none⟩ = some (.iface 23 (.int .i64 e)) := by
    rw [World.cell?_alloc_lt _ _ ⟨g, 0, none⟩ (by simp; omega), World.cell?_alloc_lt _ _ ⟨g, 0, none⟩ (by simp; omega), World.cell?_alloc_lt _ _ ⟨g, 0, none⟩ hgl]; exact he
  have hin := as_in e t ⟨w.heap.size, 0, none⟩ old (((w.alloc (.cells #[.pointer (some t)] 106)).alloc (.cells #[.pointer (some ⟨9, 106, none⟩), .pointer (some ⟨w.heap.size, 0, none⟩), .int .u64 150] 138)).alloc (.cells #[.pointer (some ⟨9, 106, none⟩), .pointer (some ⟨w.heap.size, 0, none⟩), .int .u64 150] 138))
    (by rw [World.cell?_alloc_lt _ _ ⟨w.heap.size, 0, none⟩ (by simp; omega), World.cell?_alloc_lt _ _ ⟨w.heap.size, 0, none⟩ (by simp)]; simp)
    (by rw [World.cell?_alloc_lt _ _ t (by simp; omega), World.cell?_alloc_lt _ _ t (by simp; omega), World.cell?_alloc_lt _ _ t htl]; exact ht0)
    (by rw [World.frozen?_alloc_old _ _ t (by simp; omega), World.frozen?_alloc_old _ _ t (by simp; omega), World.frozen?_alloc_old _ _ t (Nat.ne_of_lt htl)]; exact hf0)
  have hmi : (0 : Int) < m := by omega
  go_enter Tryz.func56, Tryz.ntmps56
  go_wp2
  refine wp_loop_rounds 1 ?_
  rw [rounds_succ]
  go_wp2
  refine wp_loop_rounds 1 ?_
  rw [rounds_succ]
  go_wp2_with (go_at_call 84; refine hin.mono ?_; rintro ev w' ⟨rfl, hw⟩; rw [hw])
  go_ret
  exact ⟨rfl, rfl⟩

set_option maxHeartbeats 1000000 in
theorem told_join (e : Int) (J g m c : Nat) (w : World) (hg : TypeLaid w) (hJ : w.cell? ⟨J, 0, none⟩ = some (.slice (some ⟨g, 0, none⟩) m c)) (hm : 0 < m) (he : w.cell? ⟨g, 0, none⟩ = some (.iface 23 (.int .i64 e))) :
    Calls Tryz.prog 30 #[.iface 205 (.pointer (some ⟨J, 0, none⟩))] w fun ev w' => ev = .returned (.int .i64 e) ∧ Below w.heap.size w w' := by
  have hb0 : Below w.heap.size w (w.alloc (.cells #[.int .i64 0] 23)) := (Below.refl _ _).alloc (Nat.le_refl _) _
  have hg1 : TypeLaid (w.alloc (.cells #[.int .i64 0] 23)) := hg.below hb0
  have has := as_join e J g m c ⟨w.heap.size, 0, none⟩ (.int .i64 0) (w.alloc (.cells #[.int .i64 0] 23)) hg1 (by simp) (by simp) (cell_later hb0 hJ) hm (cell_later hb0 he)
  have hx : ∃ W, W = ((((((w.alloc (.cells #[.int .i64 0] 23)).alloc (.cells #[.pointer (some ⟨w.heap.size, 0, none⟩)] 106)).alloc (.cells #[.pointer (some ⟨9, 106, none⟩), .pointer (some ⟨(w.alloc (.cells #[.int .i64 0] 23)).heap.size, 0, none⟩), .int .u64 150] 138)).alloc (.cells #[.pointer (some ⟨9, 106, none⟩), .pointer (some ⟨(w.alloc (.cells #[.int .i64 0] 23)).heap.size, 0, none⟩), .int .u64 150] 138)).alloc (.cells #[.pointer (some ⟨9, 106, none⟩), .pointer (some ⟨(w.alloc (.cells #[.int .i64 0] 23)).heap.size, 0, none⟩), .int .u64 150] 138)).alloc (.cells #[.int .i64 e] 23)) ∧ Below w.heap.size w W ∧ w.heap.size < W.heap.size ∧ W.cell? ⟨w.heap.size, 0, none⟩ = some (.int .i64 0) := by
    refine ⟨_, rfl, ?_, ?_, ?_⟩
    · exact ((((((Below.refl _ _).alloc (Nat.le_refl _) _).alloc (by simp) _).alloc (by simp; omega) _).alloc (by simp; omega) _).alloc (by simp; omega) _).alloc (by simp; omega) _
    · simp; omega
    · rw [World.cell?_alloc_lt _ _ ⟨w.heap.size, 0, none⟩ (by simp; omega), World.cell?_alloc_lt _ _ ⟨w.heap.size, 0, none⟩ (by simp; omega), World.cell?_alloc_lt _ _ ⟨w.heap.size, 0, none⟩ (by simp; omega), World.cell?_alloc_lt _ _ ⟨w.heap.size, 0, none⟩ (by simp; omega), World.cell?_alloc_lt _ _ ⟨w.heap.size, 0, none⟩ (by simp)]
      simp
  obtain ⟨W, hW, hb, hs, hc⟩ := hx
  rw [← hW] at has
  have hc2 : (W.setCell ⟨w.heap.size, 0, none⟩ (.int .i64 e)).cell? ⟨w.heap.size, 0, none⟩ = some (.int .i64 e) := World.cell?_setCell_same _ _ _ hc
  have hb2 : Below w.heap.size w (W.setCell ⟨w.heap.size, 0, none⟩ (.int .i64 e)) := hb.setCell (Nat.le_refl _) _
  clear hW
  obtain ⟨W2, hW2⟩ : ∃ W2, W2 = W.setCell ⟨w.heap.size, 0, none⟩ (.int .i64 e) := ⟨_, rfl⟩
  rw [← hW2] at has hc2 hb2
  clear hW2 hc hs hb hJ he hb0
  go_enter Tryz.func30, Tryz.ntmps30
  go_wp2_with (go_at_call 56; refine has.mono ?_; rintro ev w' ⟨rfl, hw⟩; rw [hw])
  go_ret
  exact ⟨rfl, hb2⟩

set_option maxHeartbeats 400000 in
theorem error_join (e : Int) (J g m c : Nat) (w : World) (hg : TypeLaid w) (hJ : w.cell? ⟨J, 0, none⟩ = some (.slice (some ⟨g, 0, none⟩) m c)) (hm : 0 < m) (he : w.cell? ⟨g, 0, none⟩ = some (.iface 23 (.int .i64 e))) :
    Calls Tryz.prog 9 #[.iface 205 (.pointer (some ⟨J, 0, none⟩)), .int .i64 e] w fun ev w' => ev = .returned (.bool true) ∧ Below w.heap.size w w' := by
  have ht := told_join e J g m c w hg hJ hm he
  clear hg hJ he
  go_enter Tryz.func9, Tryz.ntmps9
  go_wp2_with (go_at_call 30; refine ht.mono ?_)
  rintro ev w' ⟨rfl, hb⟩
  go_wp2
  go_ret
  exact ⟨ret_b (by simp), hb⟩

end Go.Proofs.YtnkdmgekpajfhadGreatDoor

namespace Go.Proofs.YtnkdmgekpajfhadGreatDoor
open Go.RowKit Dist

theorem erd_told (v : Value) (f : Int) (w : World) (h : Erd w v f) (hg : TypeLaid w) : Calls Tryz.prog 9 #[v, .int .i64 f] w fun e w' => e = .returned (.bool true) ∧ Below w.heap.size w w' := by
  rcases h with ⟨rfl, rfl⟩ | ⟨h, rfl⟩ | ⟨h, J, g, k, c, rfl, h1, h2, h3⟩
  · exact (error_nil 0 w).mono fun e w' ⟨he, hw⟩ => ⟨he, by rw [hw]; exact Below.refl _ _⟩
  · exact (error_err f f w hg).mono fun e w' ⟨he, hb⟩ => ⟨by rw [he]; simp, hb⟩
  · exact (error_join f J g k c w hg h1 h2 h3).mono fun e w' h => h

end Go.Proofs.YtnkdmgekpajfhadGreatDoor
