/-
  Walks of the Builder's WriteByte, of unified.head and of unified.Print: hunks as a text. Walk of unified.Print: hunks as a text.
-/
import Derived.Test.YtfmhapajdnmhoafDoorUbk
import Derived.Test.YtfmhapajdnmhoafDoorUnm
import Derived.Test.YtfmhapajdnmhoafDoorXa
import Derived.Test.YtfmhapajdnmhoafDoorXbb
namespace Go.Proofs.YtfmhapajdnmhoafDoor
open Go.RowKit Dist

theorem builder_at_below {T e : TypeId} {B b : Nat} {p : Value} {bs : List Value} {w w' : World} (h : Lib.BuilderAt T e B b p bs w) (hb : Below w.heap.size w w') : Lib.BuilderAt T e B b p bs w' := by
  have hl := h.lt
  obtain ⟨hB, v, hbk, hown, hne⟩ := h
  exact ⟨hB, v, blk_below hb hl hbk, own_later hown hb, hne⟩

theorem builder_below {T e : TypeId} {B b : Nat} {bs : List Value} {w w' : World} (h : Lib.IsBuilder T e B b bs w) (hb : Below w.heap.size w w') : Lib.IsBuilder T e B b bs w' := by
  rcases h with h | h
  · exact .inl (builder_at_below h hb)
  · exact .inr (builder_at_below h hb)

/-- All that is no byte and not the builder's own block is as it was. -/
def Kp (b : Nat) (w w' : World) : Prop := ∀ (k : Nat) (cs : Array Value) (t : TypeId) (fr : Nat × Nat), k ≠ b → t ≠ 5 → w.heap[k]? = some (.cells cs t fr) → w'.heap[k]? = some (.cells cs t fr)

theorem Kp.refl (b : Nat) (w : World) : Kp b w w := fun _ _ _ _ _ _ h => h
theorem Kp.trans {b : Nat} {w w1 w2 : World} (h : Kp b w w1) (h2 : Kp b w1 w2) : Kp b w w2 := fun k cs t fr a1 a2 a3 => h2 k cs t fr a1 a2 (h k cs t fr a1 a2 a3)
theorem Kp.below {b : Nat} {w w1 w2 : World} (h : Kp b w w1) (h2 : Below w1.heap.size w1 w2) : Kp b w w2 := fun k cs t fr a1 a2 a3 => by
  have h1 := h k cs t fr a1 a2 a3
  refine blk_below h2 ?_ h1
  by_cases e : k < w1.heap.size
  · exact e
  · rw [Array.getElem?_eq_none (by omega)] at h1; cases h1
theorem Kp.set {b i : Nat} {w w1 : World} (h : Kp b w w1) (x : Value) : Kp b w (w1.setCell ⟨b, i, none⟩ x) := fun k cs t fr a1 a2 a3 => by
  rw [Below.heap_setCell _ _ _ _ a1]
  exact h k cs t fr a1 a2 a3
theorem Kp.grown {b B : Nat} {w w1 w2 : World} {v : Value} {n : Nat} {xs : List Value} (h : Kp b w w1) (hown : w1.ownsRow B 5 1 v n xs) (hg : w1.grownBy w2 v.ownBlock) : Kp b w w2 := fun k cs t fr a1 a2 a3 => by
  have h1 := h k cs t fr a1 a2 a3
  have hk : k < w1.heap.size := by
    by_cases e : k < w1.heap.size
    · exact e
    · rw [Array.getElem?_eq_none (by omega)] at h1; cases h1
  rw [hg.block k hk ?_]
  · exact h1
  · intro e
    rcases hown.2 with ⟨rfl, _⟩ | ⟨g, cap, cur, rfl, _, hgg, _⟩
    · simp [Value.ownBlock] at e
    · simp [Value.ownBlock] at e
      subst e
      rw [h1] at hgg
      simp only [Option.some.injEq, Obj.cells.injEq] at hgg
      exact a2 hgg.2.1

theorem Kp.two {b : Nat} {w w1 : World} (h : Kp b w w1) {k : Nat} {x y : Value} {t : TypeId} {fr : Nat × Nat} (hk : k ≠ b) (ht : t ≠ 5) (hx : w.heap[k]? = some (.cells #[x, y] t fr)) : w1.cell? ⟨k, 0, none⟩ = some x ∧ w1.cell? ⟨k, 1, none⟩ = some y := by
  have := h k _ t fr hk ht hx
  exact ⟨Lib.cell_of_heap this 0, Lib.cell_of_heap this 1⟩
theorem Kp.three {b : Nat} {w w1 : World} (h : Kp b w w1) {k : Nat} {x y z : Value} {t : TypeId} {fr : Nat × Nat} (hk : k ≠ b) (ht : t ≠ 5) (hx : w.heap[k]? = some (.cells #[x, y, z] t fr)) : w1.cell? ⟨k, 0, none⟩ = some x ∧ w1.cell? ⟨k, 1, none⟩ = some y ∧ w1.cell? ⟨k, 2, none⟩ = some z := by
  have := h k _ t fr hk ht hx
  exact ⟨Lib.cell_of_heap this 0, Lib.cell_of_heap this 1, Lib.cell_of_heap this 2⟩

theorem copyCheckK (B b : Nat) (bs : List Value) (w : World) (h : Lib.IsBuilder 76 5 B b bs w) :
    Calls Tryd.prog 41 #[.pointer (some ⟨b, 0, none⟩)] w fun e w' => e = .returned (.tuple #[]) ∧ Lib.BuilderAt 76 5 B b (.pointer (some ⟨b, 0, none⟩)) bs w' ∧ Below B w w' ∧ Kp b w w' := by
  rcases h with h | h
  · refine (copyCheck_fresh b w h.cell0 h.shape h.frozen0).mono ?_
    rintro e w' ⟨rfl, rfl⟩
    exact ⟨rfl, h.used _, (Below.refl B w).setCell (p := ⟨b, 0, none⟩) h.1 _, (Kp.refl b w).set _⟩
  · refine (copyCheck_used b w h.cell0).mono ?_
    rintro e w' ⟨rfl, rfl⟩
    exact ⟨rfl, h, Below.refl B _, Kp.refl b _⟩

set_option maxRecDepth 100000 in
set_option maxHeartbeats 2000000 in
theorem writeByte (B b : Nat) (bs : List Value) (c : Int) (w : World) (h : Lib.IsBuilder 76 5 B b bs w) (hlen : bs.length + 1 ≤ 140737488355328) (hBw : B ≤ w.heap.size) :
    Calls Tryd.prog 40 #[.pointer (some ⟨b, 0, none⟩), .int .u8 c] w fun e w' => e = .returned .nilIface ∧ Lib.BuilderAt 76 5 B b (.pointer (some ⟨b, 0, none⟩)) (bs ++ [.int .u8 c]) w' ∧ Below B w w' ∧ Kp b w w' := by
  obtain ⟨i0, hi, hz0, hz1, hz2⟩ := info_parts Tryd.info5
  go_enter Tryd.func40, Tryd.ntmps40
  go_wp2_with (go_at_call 41; refine (copyCheckK B b bs _ h).mono ?_)
  rintro e w1 ⟨rfl, h1, hb1, hk1⟩
  obtain ⟨hB, v, hbk, hown, hne⟩ := h1
  have c0 : w1.cell? ⟨b, 0, none⟩ = some (.pointer (some ⟨b, 0, none⟩)) := by rw [Lib.cell_of_heap hbk]; rfl
  have c1 : w1.cell? ⟨b, 1, none⟩ = some v := by rw [Lib.cell_of_heap hbk]; rfl
  go_wp2_with (at_builtin; refine wpList_append_own _ rfl _ _ 74 rfl B 5 i0 (.int .u8 0) 1 1 Tryd.underlying74 hi hz0 hz1 hz2 rfl (by decide) _ _ _ rfl (hown.alloc _) ⟨w1.heap.size, 0, none⟩ 1 1 [.int .u8 c] rfl rfl (cell_one_new _ _ _) (fun x hx => by simp at hx; subst hx; rfl) ?c3 ?c4 ?c5 ?_)
  case c3 => unfold maxLen; omega
  case c4 => omega
  case c5 => have := hb1.size; simp; omega
  intro v' w2 hown' hgrow _
  have hlt : b < w1.heap.size := by
    rcases Nat.lt_or_ge b w1.heap.size with h' | h'
    · exact h'
    · simp [Array.getElem?_eq_none h'] at hbk
  have hb2 : w2.heap[b]? = some (.cells #[.pointer (some ⟨b, 0, none⟩), v] 76 (0, 0)) := by
    rw [hgrow.block b (by simp; omega) (fun e => hne e.symm), Lib.alloc_old w1 _ b hlt]
    exact hbk
  have d0 : w2.cell? ⟨b, 0, none⟩ = some (.pointer (some ⟨b, 0, none⟩)) := by rw [Lib.cell_of_heap hb2]; rfl
  have d1 : w2.cell? ⟨b, 1, none⟩ = some v := by rw [Lib.cell_of_heap hb2]; rfl
  have f1 : w2.frozen? ⟨b, 1, none⟩ = false := Lib.frozen_of_heap hb2 1
  obtain ⟨ao, n', cap, rfl⟩ : ∃ ao n' cap, v' = .slice ao n' cap := by
    rcases hown'.2 with ⟨hv, _⟩ | ⟨g, cap, cur, hv, _⟩
    · exact ⟨_, _, _, hv⟩
    · exact ⟨_, _, _, hv⟩
  have hk2 : Kp b w w2 := (hk1.below (below_alloc w1 _)).grown (hown.alloc _) hgrow
  go_wp2
  go_ret
  refine ⟨rfl, ?_, ?_, hk2.set _⟩
  · exact Lib.BuilderAt.put (T := 76) (e := 5) hB hb2 (bs' := bs ++ [.int .u8 c]) (by simpa using hown') (by decide)
  · exact ((hb1.alloc (by have := hb1.size; omega) _).grown hgrow (by have := hb1.size; simp; omega) (fun k hk => (hown.lt k hk).1)).setCell (p := ⟨b, 1, none⟩) hB _

set_option maxRecDepth 100000 in
set_option maxHeartbeats 2000000 in
theorem writeStringK (B b : Nat) (bs : List Value) (s : ByteArray) (w : World) (h : Lib.IsBuilder 76 5 B b bs w) (hlen : bs.length + s.size ≤ 140737488355328) (hBw : B ≤ w.heap.size) :
    Calls Tryd.prog 28 #[.pointer (some ⟨b, 0, none⟩), .string s] w fun e w' => e = .returned (.tuple #[.int .i64 s.size, .nilIface]) ∧ Lib.BuilderAt 76 5 B b (.pointer (some ⟨b, 0, none⟩)) (bs ++ Lib.strCells s) w' ∧ Below B w w' ∧ Kp b w w' := by
  obtain ⟨i0, hi, hz0, hz1, hz2⟩ := info_parts Tryd.info5
  go_enter Tryd.func28, Tryd.ntmps28
  go_wp2_with (go_at_call 41; refine (copyCheckK B b bs _ h).mono ?_)
  rintro e w1 ⟨rfl, h1, hb1, hk1⟩
  obtain ⟨hB, v, hbk, hown, hne⟩ := h1
  have c0 : w1.cell? ⟨b, 0, none⟩ = some (.pointer (some ⟨b, 0, none⟩)) := by rw [Lib.cell_of_heap hbk]; rfl
  have c1 : w1.cell? ⟨b, 1, none⟩ = some v := by rw [Lib.cell_of_heap hbk]; rfl
  go_wp2_with (at_builtin; refine Lib.wpList_append_own_string _ rfl _ _ 74 9 rfl B 5 i0 Tryd.underlying74 Tryd.underlying9 hi hz0 hz1 hz2 _ _ _ rfl hown s rfl ?c3 ?c4 ?c5 ?_)
  case c3 => unfold maxLen; omega
  case c4 => omega
  case c5 => have := hb1.size; omega
  intro v' w2 hown' hgrow _
  have hlt : b < w1.heap.size := by
    rcases Nat.lt_or_ge b w1.heap.size with h' | h'
    · exact h'
    · simp [Array.getElem?_eq_none h'] at hbk
  have hb2 : w2.heap[b]? = some (.cells #[.pointer (some ⟨b, 0, none⟩), v] 76 (0, 0)) := by
    rw [hgrow.block b hlt (fun e => hne e.symm)]
    exact hbk
  have d0 : w2.cell? ⟨b, 0, none⟩ = some (.pointer (some ⟨b, 0, none⟩)) := by rw [Lib.cell_of_heap hb2]; rfl
  have d1 : w2.cell? ⟨b, 1, none⟩ = some v := by rw [Lib.cell_of_heap hb2]; rfl
  have f1 : w2.frozen? ⟨b, 1, none⟩ = false := Lib.frozen_of_heap hb2 1
  obtain ⟨ao, n', cap, rfl⟩ : ∃ ao n' cap, v' = .slice ao n' cap := by
    rcases hown'.2 with ⟨hv, _⟩ | ⟨g, cap, cur, hv, _⟩
    · exact ⟨_, _, _, hv⟩
    · exact ⟨_, _, _, hv⟩
  have hk2 : Kp b w w2 := hk1.grown hown hgrow
  go_wp2
  go_ret2
  refine ⟨rfl, ?_, ?_, hk2.set _⟩
  · exact Lib.BuilderAt.put (T := 76) (e := 5) hB hb2 (bs' := bs ++ Lib.strCells s) (by simpa [Lib.strCells_length] using hown') (by decide)
  · exact (hb1.grown hgrow (by have := hb1.size; omega) (fun k hk => (hown.lt k hk).1)).setCell (p := ⟨b, 1, none⟩) hB _

set_option maxRecDepth 100000 in
set_option maxHeartbeats 1000000 in
theorem headOf (o p : Nat) (a : Option Addr) (ms : List (Int × ByteArray)) (ca : Nat) (w : World) (ha : Mks w a ms) (hm : ms.length ≤ maxLen) (h1 : o ≤ 60) (h2 : p ≤ 60) (h3 : ob ms ≤ 60) (h4 : nb ms ≤ 60) :
    Calls Tryd.prog 39 #[.agg #[.int .i64 o, .int .i64 p, .slice a ms.length ca]] w fun e w' => e = .returned (.string ⟨(hdl o (ob ms) p (nb ms)).toArray⟩) ∧ Below w.heap.size w w' := by
  have hb0 := below_alloc w (.cells #[.int .i64 o, .int .i64 p, .slice a ms.length ca] 51)
  have hsz := hunkSz o p a ms ca _ (ha.below hb0) hm
  have l1 := spn_len (a := o) (n := ob ms) (by omega) (by split <;> omega)
  have l2 := spn_len (a := p) (n := nb ms) (by omega) (by split <;> omega)
  have HD : Hid (hdl o (ob ms) p (nb ms) = [64, 64, 32, 45] ++ (spn o (ob ms) ++ (32 :: 43 :: (spn p (nb ms) ++ [32, 64, 64])))) := rfl
  obtain ⟨n, hn⟩ : ∃ n, ob ms = n := ⟨_, rfl⟩
  obtain ⟨m, hmm⟩ : ∃ m, nb ms = m := ⟨_, rfl⟩
  obtain ⟨q, hq⟩ : ∃ q, ms.length = q := ⟨_, rfl⟩
  rw [hn, hmm] at hsz HD
  rw [hn] at l1 h3
  rw [hmm] at l2 h4
  rw [hn, hmm, hq]
  rw [hq] at hsz hb0
  have HB0 : Hid (Below w.heap.size w (w.alloc (.cells #[.int .i64 o, .int .i64 p, .slice a q ca] 51))) := hb0
  clear ha hm hn hmm hq hb0
  go_enter Tryd.func39, Tryd.ntmps39
  go_wp2_with (go_at_call 49; refine hsz.mono ?_)
  rintro e w1 ⟨rfl, hb1⟩
  obtain ⟨d0, d1, d2⟩ := cells_later hb1
  have hb1 := HB0.out.trans (hb1.mono HB0.out.size)
  clear hsz HB0
  go_wp2
  go_quiet ((go_at_call 50; exact Calls.quiet_of_same (spanOf _ _ _ (by omega) (by omega))))
  go_wp2
  go_ret
  refine ⟨?_, below_drawn hb1⟩
  rw [HD.out]
  exact ret_s (by simp)

end Go.Proofs.YtfmhapajdnmhoafDoor
namespace Go.Proofs.YtfmhapajdnmhoafDoor
open Go.RowKit Dist

set_option maxHeartbeats 400000 in
theorem print_bad (a : Option Addr) (l : List Uk) (ca : Nat) (w : World) (ha : Hks w a l) (hm : l.length ≤ maxLen) (hms : ∀ h ∈ l, h.2.2.length ≤ maxLen) (hf0 : (hf l).2 ≠ 0) :
    Calls Tryd.prog 27 #[.slice a l.length ca] w fun e w' => e = .returned (.tuple #[.string ⟨#[]⟩, .iface 33 (.int .i64 (hf l).2)]) ∧ Below w.heap.size w w' := by
  have hck := hunkCheck a l ca w ha hm hms
  rw [errV_not hf0] at hck
  obtain ⟨n, hn⟩ : ∃ n, l.length = n := ⟨_, rfl⟩
  obtain ⟨f, hf⟩ : ∃ f, (hf l).2 = f := ⟨_, rfl⟩
  rw [hn, hf] at hck
  rw [hn, hf]
  clear ha hm hms hf0 hn hf
  go_enter Tryd.func27, Tryd.ntmps27
  go_wp2_with (go_at_call 38; refine hck.mono ?_)
  rintro e w0 ⟨rfl, hb0⟩
  clear hck
  go_wp2
  go_ret2
  exact ⟨rfl, hb0⟩

theorem joinC_one (c : UInt8) (s : List UInt8) : joinC c [s] = s ++ [c] := rfl

theorem lns_tk (l : List Uk) (k : Nat) (hk : k < l.length) : joinC 10 (lns (l.take (k + 1))) = joinC 10 (lns (l.take k)) ++ (hdl (l.getD k (0, 0, [])).1.toNat (ob (l.getD k (0, 0, [])).2.2) (l.getD k (0, 0, [])).2.1.toNat (nb (l.getD k (0, 0, [])).2.2) ++ [10]) ++ joinC 10 ((l.getD k (0, 0, [])).2.2.map mkl) := by
  rw [tkh l k hk, lns_snoc, joinC_append]
  unfold lnh
  simp [joinC]

theorem lns_tk_len (l : List Uk) (h : (hf l).2 = 0) (k : Nat) : (joinC 10 (lns (l.take k))).length ≤ 14760 := by
  have h1 := (prt_len h).2
  have e : lns l = lns (l.take k) ++ lns (l.drop k) := by
    unfold lns
    rw [← List.flatMap_append, List.take_append_drop]
  unfold prt at h1
  rw [e, joinC_append, List.length_append] at h1
  omega

theorem byte_cell (c : Int) (h : 0 ≤ c) (h2 : c < 256) : [Value.int .u8 c] = Lib.byteCells [UInt8.ofNat c.toNat] := by
  unfold Lib.byteCells
  simp
  omega

theorem mem_getD2 {ms : List (Int × ByteArray)} {k : Nat} (hk : k < ms.length) : ms.getD k (0, ByteArray.empty) ∈ ms := by
  have e : ms.getD k (0, ByteArray.empty) = ms[k] := by simp [hk]
  rw [e]; exact List.getElem_mem _

theorem mkl_tk (ms : List (Int × ByteArray)) (k : Nat) (hk : k < ms.length) : joinC 10 ((ms.take (k + 1)).map mkl) = joinC 10 ((ms.take k).map mkl) ++ (mkl (ms.getD k (0, ByteArray.empty)) ++ [10]) := by
  rw [tk_snoc ms k hk, List.map_append, joinC_append]; rfl

theorem mkl_len (ms : List (Int × ByteArray)) (h : ∀ m ∈ ms, sgn m.1 ∧ lf m.2.data.toList = 0) (hl : ms.length ≤ 120) (k : Nat) : (joinC 10 ((ms.take k).map mkl)).length ≤ 9840 := by
  have h1 := joinC_le (l := (ms.take k).map mkl) (fun s hs => by
    obtain ⟨m, hm, rfl⟩ := List.mem_map.1 hs
    have := (lf_zero (h m (List.mem_of_mem_take hm)).2).2
    unfold mkl
    rw [List.length_cons]; omega)
  rw [List.length_map, List.length_take] at h1
  omega

theorem app_nl (l : List UInt8) : Lib.strCells (ByteArray.mk l.toArray ++ ByteArray.mk #[10]) = Lib.byteCells (l ++ [10]) ∧ (ByteArray.mk l.toArray ++ ByteArray.mk #[10]).size = l.length + 1 := by
  have e : (ByteArray.mk l.toArray ++ ByteArray.mk #[10]).data.toList = l ++ [10] := by simp
  refine ⟨by rw [Lib.strCells_eq, e], ?_⟩
  rw [Lib.size_eq, e, List.length_append]; rfl

theorem app_nl' (s : ByteArray) : Lib.strCells (s ++ ByteArray.mk #[10]) = Lib.byteCells (s.data.toList ++ [10]) ∧ (s ++ ByteArray.mk #[10]).size = s.size + 1 := by
  have e : (s ++ ByteArray.mk #[10]).data.toList = s.data.toList ++ [10] := by simp
  refine ⟨by rw [Lib.strCells_eq, e], ?_⟩
  rw [Lib.size_eq, e, List.length_append, ← Lib.size_eq]; rfl

set_option maxRecDepth 100000 in
set_option maxHeartbeats 1000000 in
theorem print_ok (a : Option Addr) (l : List Uk) (ca : Nat) (w : World) (ha : Hks w a l) (hf0 : (hf l).2 = 0) :
    Calls Tryd.prog 27 #[.slice a l.length ca] w fun e w' => e = .returned (.tuple #[.string ⟨(prt l).toArray⟩, .nilIface]) ∧ Below w.heap.size w w' := by
  have hl := (hf_zero hf0).1
  have hrd := hf_rd hf0
  have hck := hunkCheck a l ca w ha (by unfold maxLen; omega) (fun h hh => by have := (sf_zero (hrd h hh).2.2).1; unfold maxLen; omega)
  rw [hf0, errV_zero] at hck
  obtain ⟨q0, hq0⟩ : ∃ q, (hf l).1 = q := ⟨_, rfl⟩
  obtain ⟨n, hn⟩ : ∃ n, l.length = n := ⟨_, rfl⟩
  rw [hn, hq0] at hck
  rw [hn] at hl ⊢
  have HN : Hid (l.length = n) := hn
  have HA : Hid (Hks w a l) := ha
  have HR : Hid (∀ x ∈ l, Rd x ∧ 0 < chg x.2.2 ∧ sf x.2.2 = 0) := hrd
  have HLen : Hid (∀ k, (joinC 10 (lns (l.take k))).length ≤ 14760) := lns_tk_len l hf0
  have HNX : Hid (∀ k, k < l.length → joinC 10 (lns (l.take (k + 1))) = joinC 10 (lns (l.take k)) ++ (hdl (l.getD k (0, 0, [])).1.toNat (ob (l.getD k (0, 0, [])).2.2) (l.getD k (0, 0, [])).2.1.toNat (nb (l.getD k (0, 0, [])).2.2) ++ [10]) ++ joinC 10 ((l.getD k (0, 0, [])).2.2.map mkl)) := lns_tk l
  clear hn ha hrd hf0 hq0
  obtain ⟨B, hB⟩ : ∃ B, w.heap.size = B := ⟨_, rfl⟩
  have HB : Hid (w.heap.size = B) := hB
  rw [hB] at hck ⊢
  clear hB
  go_enter Tryd.func27, Tryd.ntmps27
  go_wp2_with (go_at_call 38; refine hck.mono ?_)
  rintro e w0 ⟨rfl, hb0⟩
  obtain ⟨G, hG⟩ : ∃ G, w0.heap.size = G := ⟨_, rfl⟩
  have hBG : B ≤ G := by have := hb0.size; have := HB.out; omega
  have HG : Hid (w0.heap.size = G) := hG
  have HB0 : Hid (Below B w w0) := hb0
  clear hck hb0
  go_wp2
  go_loopw [21] (fun i w1 => ∃ k : Nat, k ≤ n ∧ i = .int .i64 k ∧ Lib.IsBuilder 76 5 G G (Lib.byteCells (joinC 10 (lns (l.take k)))) w1 ∧ Below B w w1 ∧ G < w1.heap.size) (fun i _ => n - (intOf i).toNat)
  case atStart =>
    refine ⟨0, Nat.zero_le _, rfl, ?_, ?_, ?_⟩
    · have := Lib.fresh_isBuilder 76 5 w0
      rw [hG] at this
      exact this
    · exact HB0.out.alloc (by rw [hG]; exact hBG) _
    · simp; omega
  case round =>
    obtain ⟨k, hk, rfl, hbd, hbl, hsz⟩ := hrel
    clear HB0 hG
    by_cases hlt : k < n
    · have ha := HA.out
      have hkl : k < l.length := by rw [HN.out]; exact hlt
      obtain ⟨b, off, am, cm, rfl, hc1, hc2, hc3, hmk⟩ := ha.at (i := k) hkl
      clear ha
      have hb' : Below w.heap.size w wr := by rw [HB.out]; exact hbl
      replace hc1 := cell_later hb' hc1
      replace hc2 := cell_later hb' hc2
      replace hc3 := cell_later hb' hc3
      have HMK : Hid (Mks w am (l.getD k (0, 0, [])).2.2) := hmk
      replace hmk := hmk.below hb'
      obtain ⟨⟨r1, r2, r3, r4, r5, r6, r7⟩, _, r8⟩ := HR.out _ (mem_getD3 hkl)
      obtain ⟨r8, r9⟩ := sf_zero r8
      have hpl := HLen.out k
      have hpl2 := HLen.out (k + 1)
      have hnx := HNX.out k hkl
      obtain ⟨o, ho⟩ : ∃ o : Nat, (l.getD k (0, 0, [])).1 = o := ⟨_, (Int.toNat_of_nonneg r1).symm⟩
      obtain ⟨p, hp⟩ : ∃ p : Nat, (l.getD k (0, 0, [])).2.1 = p := ⟨_, (Int.toNat_of_nonneg r3).symm⟩
      obtain ⟨ms, hms⟩ : ∃ ms, (l.getD k (0, 0, [])).2.2 = ms := ⟨_, rfl⟩
      rw [ho] at hc1 r1 r2 hnx
      rw [hp] at hc2 r3 r4 hnx
      rw [hms] at hc3 hmk r5 r6 r7 r8 r9 hnx HMK
      rw [Int.toNat_natCast, Int.toNat_natCast] at hnx
      clear ho hp hms
      have hb0 := below_alloc wr (.cells #[.int .i64 o, .int .i64 p, .slice am ms.length cm] 51)
      have hhd := headOf o p am ms cm _ (hmk.below hb0) (by unfold maxLen; omega) (by omega) (by omega) r5 r6
      have hsp1 := spn_len (a := o) (n := ob ms) (by omega) (by split <;> omega)
      have hsp2 := spn_len (a := p) (n := nb ms) (by omega) (by split <;> omega)
      have hhl : (hdl o (ob ms) p (nb ms)).length ≤ 30 := by
        unfold hdl
        simp only [List.length_append, List.length_cons, List.length_nil]
        omega
      obtain ⟨hh, hhh⟩ : ∃ hh, hdl o (ob ms) p (nb ms) = hh := ⟨_, rfl⟩
      rw [hhh] at hhd hhl hnx
      obtain ⟨pre, hpre⟩ : ∃ pre, joinC 10 (lns (l.take k)) = pre := ⟨_, rfl⟩
      rw [hpre] at hbd hpl hnx
      have HNX2 : Hid (joinC 10 (lns (l.take (k + 1))) = pre ++ (hh ++ [10]) ++ joinC 10 (ms.map mkl)) := hnx
      have HSG : Hid (∀ m ∈ ms, sgn m.1 ∧ lf m.2.data.toList = 0) := r9
      have HJL : Hid (∀ j, (joinC 10 ((ms.take j).map mkl)).length ≤ 9840) := mkl_len ms r9 r8
      have HBD : Hid (Lib.IsBuilder 76 5 G G (Lib.byteCells pre) wr) := hbd
      obtain ⟨q, hq⟩ : ∃ q, ms.length = q := ⟨_, rfl⟩
      have HQ : Hid (ms.length = q) := hq
      rw [hq] at hc3 hhd r8 hb0
      have HB0 : Hid (Below wr.heap.size wr (wr.alloc (.cells #[.int .i64 o, .int .i64 p, .slice am q cm] 51))) := hb0
      clear hpre hhh hsp1 hsp2 hnx hq r9 r7 hmk hbd hb' hkl hb0 hpl2
      go_wp2_with (go_at_call 39; refine hhd.mono ?_)
      rintro e w1 ⟨rfl, hb1⟩
      have hblk := blk_below hb1 (by simp) (heap_alloc_new wr (.cells #[.int .i64 o, .int .i64 p, .slice am q cm] 51))
      have hb1 := HB0.out.trans (hb1.mono HB0.out.size)
      have hbd1 := builder_below HBD.out hb1
      have hs1 := hb1.size
      have hw2 := writeStringK G G _ (ByteArray.mk hh.toArray ++ ByteArray.mk #[10]) w1 hbd1 (by rw [(app_nl hh).2, Lib.byteCells_length]; omega) (by omega)
      rw [(app_nl hh).1, ← Lib.byteCells_append] at hw2
      clear hhd HB0
      go_wp2_with (go_at_call 28; refine hw2.mono ?_)
      rintro e w2 ⟨rfl, hbd2, hb2, hk2⟩
      obtain ⟨d0, d1, d2⟩ := hk2.three (by omega) (by decide) hblk
      have hs2 := hb2.size
      have HB2 : Hid (Below B w w2) := (hbl.trans (hb1.mono (by have := HB.out; omega))).trans (hb2.mono hBG)
      have HBD2 : Hid (Lib.IsBuilder 76 5 G G (Lib.byteCells (pre ++ (hh ++ [10]))) w2) := Or.inr hbd2
      clear hw2 hbd1 hbd2 hk2 hblk hb1 hb2 hbl HBD
      obtain ⟨pr, hpr⟩ : ∃ pr, pre ++ (hh ++ [10]) = pr := ⟨_, rfl⟩
      rw [hpr] at HBD2 HNX2
      have hprl : pr.length ≤ 14800 := by rw [← hpr, List.length_append, List.length_append]; simp; omega
      clear hpr
      go_wp2
      go_loopw [32] (fun i wx => ∃ j : Nat, j ≤ q ∧ i = .int .i64 j ∧ Lib.IsBuilder 76 5 G G (Lib.byteCells (pr ++ joinC 10 ((ms.take j).map mkl))) wx ∧ Below B w wx ∧ G < wx.heap.size) (fun i _ => q - (intOf i).toNat)
      case atStart =>
        refine ⟨0, Nat.zero_le _, rfl, ?_, HB2.out, by omega⟩
        have := HBD2.out
        simpa [joinC] using this
      case round =>
        obtain ⟨j, hj, rfl, hbx, hbw, hsx⟩ := hrel
        clear HB2 HBD2 hs1 hs2 d0 d1 d2 hc1 hc2 hc3
        by_cases hjq : j < q
        · have hmk := HMK.out
          have hjl : j < ms.length := by rw [HQ.out]; exact hjq
          obtain ⟨b1, off1, rfl, hx1, hx2⟩ := hmk.at (i := j) hjl
          clear hmk
          have hb' : Below w.heap.size w wr := by rw [HB.out]; exact hbw
          replace hx1 := cell_later hb' hx1
          replace hx2 := cell_later hb' hx2
          obtain ⟨g1, g2⟩ := HSG.out _ (mem_getD2 hjl)
          have hnx := mkl_tk ms j hjl
          have hjn := HJL.out j
          obtain ⟨c, hc⟩ : ∃ c, (ms.getD j (0, ByteArray.empty)).1 = c := ⟨_, rfl⟩
          obtain ⟨t, ht⟩ : ∃ t, (ms.getD j (0, ByteArray.empty)).2 = t := ⟨_, rfl⟩
          rw [getD_eta ms j hc ht] at hnx
          rw [hc] at hx1 g1
          rw [ht] at hx2 g2
          have hts : t.size ≤ 80 := by have := (lf_zero g2).2; rw [Lib.size_eq]; exact this
          have HCB : Hid ([Value.int .u8 c] = Lib.byteCells [UInt8.ofNat c.toNat]) := byte_cell c (by rcases g1 with e | e | e <;> omega) (by rcases g1 with e | e | e <;> omega)
          obtain ⟨dn, hdn⟩ : ∃ dn, joinC 10 ((ms.take j).map mkl) = dn := ⟨_, rfl⟩
          rw [hdn] at hbx hnx hjn
          have HN3 : Hid (joinC 10 ((ms.take (j + 1)).map mkl) = dn ++ (mkl (c, t) ++ [10])) := hnx
          have hbx1 := builder_below hbx (below_alloc wr (.cells #[.int .u8 c, .string t] 69))
          have hblk := heap_alloc_new wr (.cells #[.int .u8 c, .string t] 69)
          have hwb := writeByte G G _ c _ hbx1 (by rw [Lib.byteCells_length, List.length_append]; omega) (by simp; omega)
          clear hc ht hdn hnx g1 g2 hb' hjl hbx hbx1
          go_wp2_with (go_at_call 40; refine hwb.mono ?_)
          rintro e w3 ⟨rfl, hbd3, hb3, hk3⟩
          obtain ⟨d0, d1⟩ := hk3.two (by omega) (by decide) hblk
          have hs3 := hb3.size
          simp at hs3
          have hb3 := (hbw.alloc (by omega) _).trans (hb3.mono hBG)
          have hws := writeStringK G G _ (t ++ ByteArray.mk #[10]) w3 (Or.inr hbd3) (by rw [(app_nl' t).2, List.length_append, Lib.byteCells_length, List.length_append, List.length_singleton]; omega) (by omega)
          rw [(app_nl' t).1, HCB.out, ← Lib.byteCells_append, ← Lib.byteCells_append] at hws
          clear hwb hk3 hbd3 hblk hx1 hx2 hbw
          go_wp2_with (go_at_call 28; refine hws.mono ?_)
          rintro e w4 ⟨rfl, hbd4, hb4, _⟩
          have hs4 := hb4.size
          have hb4 := hb3.trans (hb4.mono hBG)
          clear hws hb3
          go_wp2
          go_roundw
          case rel =>
            refine ⟨j + 1, by omega, by go_num, Or.inr ?_, hb4, by omega⟩
            rw [HN3.out]
            have e : pr ++ (dn ++ (mkl (c, t) ++ [10])) = pr ++ dn ++ [UInt8.ofNat c.toNat] ++ (t.data.toList ++ [10]) := by unfold mkl; simp
            rw [e]; exact hbd4
          case measure => simp [intOf]; omega
        · obtain rfl : j = q := by omega
          rw [List.take_of_length_le (by rw [HQ.out]; exact Nat.le_refl _), ← HNX2.out] at hbx
          go_wp2
          go_roundw
          case rel => exact ⟨k + 1, by omega, by go_num, hbx, hbw, hsx⟩
          case measure => simp [intOf]; omega
    · obtain rfl : k = n := by omega
      have hst := Tryd.Builder_String_any G G _ wr hbd (by omega)
      go_wp2_with (go_at_call 30; refine hst.mono ?_)
      rintro e w1 ⟨rfl, hbe⟩
      go_wp2
      go_ret2
      refine ⟨?_, hbl.trans (hbe.mono hBG)⟩
      rw [List.take_of_length_le (by rw [HN.out]; exact Nat.le_refl _)]; rfl

end Go.Proofs.YtfmhapajdnmhoafDoor
