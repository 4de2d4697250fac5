/-
  Lines to some of which hunks have been done, as they lie in memory; walks of apply.file's near and replace: how far from where they are wanted old lines stand; so many lines by others. Walk of apply.file's replace: so many lines at a place by others. Walks of the document's own answers for hunks that are done strictly: whether lines stand at a place; so many lines by others.
-/
import Derived.Test.YtnkdmgekpajfhadGreatDoorXf
import Derived.Deep.RegionHeld3
import Derived.Deep.RegionLaw
import Derived.Test.YtnkdmgekpajfhadGreatDoorRefH

namespace Go.Proofs.YtnkdmgekpajfhadGreatDoor
open Go.RowKit Dist

/-- A store into a block that holds no text leaves lines. -/
theorem Strs.other {w : World} {a : Option Addr} {A : List ByteArray} (h : Strs w a A) {F : Nat} {cs : Array Value} {t : TypeId} {fr : Nat × Nat} (hF : w.heap[F]? = some (.cells cs t fr)) (hcs : ∀ (i : Nat) (s : ByteArray), cs[i]? ≠ some (Value.string s)) (i : Nat) (v : Value) : Strs (w.setCell ⟨F, i, none⟩ v) a A := by
  intro j hj
  obtain ⟨b, off, e, hc⟩ := h j hj
  refine ⟨b, off, e, ?_⟩
  rw [World.cell?_setCell_other]
  · exact hc
  · intro e2
    have e3 := congrArg Addr.block e2
    simp only at e3
    subst e3
    rw [Lib.cell_of_heap hF] at hc
    exact hcs _ _ hc

theorem TypS.other {w : World} {a : Option Addr} (h : TypS w a) {F : Nat} {cs : Array Value} {t : TypeId} {fr : Nat × Nat} (hF : w.heap[F]? = some (.cells cs t fr)) (ht : t ≠ 9) (i : Nat) (v : Value) : TypS (w.setCell ⟨F, i, none⟩ v) a := by
  intro b off sp e
  obtain ⟨cs', fr', hc⟩ := h b off sp e
  have hne : F ≠ b := by
    intro e2
    rw [e2, hc] at hF
    simp only [Option.some.injEq, Obj.cells.injEq] at hF
    exact ht hF.2.1.symm
  refine ⟨cs', fr', ?_⟩
  simp only [World.setCell, Array.getElem?_modify]
  rw [if_neg hne]; exact hc

end Go.Proofs.YtnkdmgekpajfhadGreatDoor

namespace Go.Proofs.YtnkdmgekpajfhadGreatDoor
open Go.RowKit Dist

theorem run_slice_to (a : Option Addr) (len cap hi : Nat) (h2 : hi ≤ cap) (w : World) (h : Int) (hh : h = hi) : (Instr.slice 58 (.slice a len cap) none (some (.int .i64 h)) none).run Tryz.prog w = .ok (.slice (sa a cap 0) hi cap) w := by
  obtain ⟨i0, hi0, hz0, hz1, hz2⟩ := info_parts Tryz.info9
  subst hh
  have hsz : ∀ w, (Go.sizeOf 9).run Tryz.prog w = .ok 1 w := fun w => by simp [Go.sizeOf, typeInfo, hi0, hz1]
  have b2 : (0 : Int) ≤ hi ∧ (hi : Int) ≤ cap := by omega
  simp only [Instr.slice, Instr.sliceBounds, Instr.sliceBound, run_underlying Tryz.underlying58, Sem.run_bind, Sem.run_pure, Result.andThen_ok, asIntOf, b2, hsz, sa, Nat.zero_mul, if_true, and_self, Int.toNat_natCast, Nat.sub_zero]

end Go.Proofs.YtnkdmgekpajfhadGreatDoor

namespace Go.Proofs.YtnkdmgekpajfhadGreatDoor
open Go.RowKit Dist

/-- Line by line. -/
theorem stB_all {xs ys : List ByteArray} {p : Nat} (h : p + ys.length ≤ xs.length) (he : ∀ j : Nat, j < ys.length → xs.getD (p + j) ByteArray.empty = ys.getD j ByteArray.empty) : stB xs p ys = true := by
  rw [stB_iff]
  refine ⟨h, List.ext_getElem (by rw [List.length_take, List.length_drop]; omega) fun j h1 h2 => ?_⟩
  have := he j h2
  rw [List.getElem_take, List.getElem_drop]
  simpa [h2, show p + j < xs.length by omega] using this

theorem stB_one {xs ys : List ByteArray} {p j : Nat} (hj : j < ys.length) (he : xs.getD (p + j) ByteArray.empty ≠ ys.getD j ByteArray.empty) : stB xs p ys = false := by
  rw [Bool.eq_false_iff]
  intro h
  obtain ⟨h1, h2⟩ := stB_iff.1 h
  apply he
  have e : ys.getD j ByteArray.empty = ((xs.drop p).take ys.length).getD j ByteArray.empty := by rw [h2]
  rw [e]
  simp [hj, List.getElem?_drop]

set_option maxRecDepth 100000 in
set_option maxHeartbeats 2000000 in
theorem refStands (a b : Option Addr) (xs ys : List ByteArray) (ca cb p : Nat) (w : World) (ha : Strs w a xs) (hb : Strs w b ys) (hx : xs.length ≤ 10000) (hy : ys.length ≤ 10000) (hp : p ≤ 100000) :
    Calls Tryz.prog 93 #[.slice a xs.length ca, .int .i64 p, .slice b ys.length cb] w fun e w' => e = .returned (.bool (stB xs p ys)) ∧ Below w.heap.size w w' := by
  by_cases h : p + ys.length ≤ xs.length
  · have HA : Hid (Strs w a xs) := ha
    have HBS : Hid (Strs w b ys) := hb
    have HALLS : Hid ((∀ j : Nat, j < ys.length → xs.getD (p + j) ByteArray.empty = ys.getD j ByteArray.empty) → stB xs p ys = true) := fun he => stB_all h he
    have HONES : Hid (∀ j : Nat, j < ys.length → xs.getD (p + j) ByteArray.empty ≠ ys.getD j ByteArray.empty → stB xs p ys = false) := fun j hj he => stB_one hj he
    obtain ⟨m, hm⟩ : ∃ m, xs.length = m := ⟨_, rfl⟩
    obtain ⟨n, hn⟩ : ∃ n, ys.length = n := ⟨_, rfl⟩
    have HM : Hid (xs.length = m) := hm
    have HN : Hid (ys.length = n) := hn
    rw [hn] at HALLS HONES
    rw [hm] at hx
    rw [hn] at hy
    rw [hm, hn] at h
    rw [hm, hn]
    have h' : (p : Int) ≤ (m : Int) - n := by omega
    obtain ⟨B, hB⟩ : ∃ B, w.heap.size = B := ⟨_, rfl⟩
    have HB : Hid (w.heap.size = B) := hB
    rw [hB]
    clear ha hb hm hn hB
    go_enter Tryz.func93, Tryz.ntmps93
    go_wp2
    go_loopw [7] (fun i w1 => ∃ k : Nat, k ≤ n ∧ i = .int .i64 k ∧ Below B w w1 ∧ ∀ j : Nat, j < k → xs.getD (p + j) ByteArray.empty = ys.getD j ByteArray.empty) (fun i _ => n - (intOf i).toNat)
    case atStart => exact ⟨0, Nat.zero_le _, rfl, Below.refl _ _, fun j hj => absurd hj (Nat.not_lt_zero _)⟩
    case round =>
      obtain ⟨k, hk, rfl, hbl, hall⟩ := hrel
      have HALL : Hid (∀ j : Nat, j < k → xs.getD (p + j) ByteArray.empty = ys.getD j ByteArray.empty) := hall
      clear hall
      have hb' : Below w.heap.size w wr := by rw [HB.out]; exact hbl
      by_cases hlt : k < n
      · have h1 := HA.out.below hb'
        have h2 := HBS.out.below hb'
        obtain ⟨ba, oa, rfl, hca⟩ := Strs.at h1 (i := p + k) (by rw [HM.out]; omega)
        obtain ⟨bb, ob, rfl, hcb⟩ := Strs.at h2 (i := k) (by rw [HN.out]; exact hlt)
        have hca := hca (p + k) (by rw [HM.out]; omega)
        have hcb := hcb k (by rw [HN.out]; exact hlt)
        obtain ⟨x, hx'⟩ : ∃ x, xs.getD (p + k) ByteArray.empty = x := ⟨_, rfl⟩
        obtain ⟨y, hy'⟩ : ∃ y, ys.getD k ByteArray.empty = y := ⟨_, rfl⟩
        rw [hx'] at hca
        rw [hy'] at hcb
        have HX : Hid (xs.getD (p + k) ByteArray.empty = x) := hx'
        have HY : Hid (ys.getD k ByteArray.empty = y) := hy'
        have hwr : IntKind.i64.wrap ((p : Int) + k) = (p : Int) + k := by rw [IntKind.wrap_i64]; omega
        clear hx' hy' h1 h2 hb'
        by_cases he : (x.toList == y.toList) = true
        · have HE : Hid (x = y) := by
            have := beq_iff_eq.1 he
            rw [Lib.toList_data, Lib.toList_data] at this
            exact ByteArray.ext (Array.toList_inj.1 this)
          go_wp2
          go_quiet (fail)
          go_wp2
          go_roundw
          case rel => exact ⟨k + 1, by omega, by go_num, below_drawn hbl, fun j hj => by
            by_cases e : j = k
            · rw [e, HX.out, HY.out]; exact HE.out
            · exact HALL.out j (by omega)⟩
          case measure => simp [intOf]; omega
        · have he : (x.toList == y.toList) = false := by simpa using he
          have HNE : Hid (x ≠ y) := bytes_ne he
          go_wp2
          go_quiet (fail)
          go_wp2
          go_ret
          refine ⟨ret_b ?_, below_drawn hbl⟩
          rw [HONES.out k hlt (by rw [HX.out, HY.out]; exact HNE.out)]
      · go_wp2
        go_ret
        refine ⟨ret_b ?_, hbl⟩
        rw [HALLS.out fun j hj => HALL.out j (by omega)]
  · have he : stB xs p ys = false := by unfold stB; exact decide_eq_false (fun h2 => h h2.1)
    rw [he]
    obtain ⟨m, hm⟩ : ∃ m, xs.length = m := ⟨_, rfl⟩
    obtain ⟨n, hn⟩ : ∃ n, ys.length = n := ⟨_, rfl⟩
    rw [hm, hn] at h
    rw [hm] at hx
    rw [hn] at hy
    rw [hm, hn]
    have h' : (m : Int) - n < p := by omega
    clear ha hb hm hn h he
    go_enter Tryz.func93, Tryz.ntmps93
    go_wp2
    go_ret
    exact ⟨rfl, Below.refl _ _⟩

set_option maxRecDepth 100000 in
set_option maxHeartbeats 2000000 in
theorem refRepl (a b : Option Addr) (xs ys : List ByteArray) (ca cb pl m1 : Nat) (w : World) (ha : Strs w a xs) (hb : Strs w b ys) (hca : xs.length ≤ ca) (hpl : pl + m1 ≤ xs.length) (hx : xs.length ≤ 10000) (hy : ys.length ≤ 10000) :
    Calls Tryz.prog 94 #[.slice a xs.length ca, .int .i64 pl, .int .i64 m1, .slice b ys.length cb] w fun e w' => ∃ a' c', e = .returned (.slice a' (rep xs pl m1 ys).length c') ∧ Strs w' a' (rep xs pl m1 ys) ∧ Below w.heap.size w w' ∧ (rep xs pl m1 ys).length ≤ c' := by
  have hp1 := fun w (h : Strs w a xs) => h.part hca 0 pl
  have hp3 := fun w (h : Strs w a xs) => h.part hca (pl + m1) xs.length
  have hsl1 := fun w => run_slice_to a xs.length ca pl (by omega) w pl rfl
  have hsl2 := fun w => run_slice_from a xs.length ca (pl + m1) hpl w ((pl : Int) + m1) (by omega)
  simp only [List.drop_zero] at hp1
  simp only [List.take_length] at hp3
  have l1 : (xs.take pl).length = pl := by rw [List.length_take]; omega
  have l3 : (xs.drop (pl + m1)).length = xs.length - (pl + m1) := by rw [List.length_drop]
  have SA : Hid (Strs w a xs) := ha
  have SB : Hid (Strs w b ys) := hb
  have HP1 : Hid (∀ w, Strs w a xs → Strs w (sa a ca 0) (xs.take pl)) := hp1
  have HP3 : Hid (∀ w, Strs w a xs → Strs w (sa a ca (pl + m1)) (xs.drop (pl + m1))) := hp3
  obtain ⟨m, hm⟩ : ∃ m, xs.length = m := ⟨_, rfl⟩
  obtain ⟨n, hn⟩ : ∃ n, ys.length = n := ⟨_, rfl⟩
  have HM : Hid (xs.length = m) := hm
  have HN : Hid (ys.length = n) := hn
  rw [hm] at hsl1 hsl2 hca hpl hx l3
  rw [hn] at hy
  rw [hm, hn]
  have L1 : Hid ((xs.take pl).length = pl) := l1
  have L3 : Hid ((xs.drop (pl + m1)).length = m - (pl + m1)) := l3
  obtain ⟨B, hB⟩ : ∃ B, w.heap.size = B := ⟨_, rfl⟩
  have HB : Hid (w.heap.size = B) := hB
  have hzB : B ≤ w.heap.size := by omega
  rw [hB]
  clear ha hb hp1 hp3 hm hn l1 l3 hB
  go_enter Tryz.func94, Tryz.ntmps94
  go_wp2_with (at_builtin; refine append_strs rfl _ _ rfl B (.slice none 0 0) 0 [] rfl (World.ownsRow_nil _ _ _ _) (sa a ca 0) (xs.take pl) pl ca L1.out rfl (HP1.out _ SA.out) (by omega) hzB ?_)
  intro v7 w7 hown7 hgrow7 hat7
  have hb7 : Below B w w7 := (Below.refl B w).grown hgrow7 hzB (fun k hk => by simp [Value.ownBlock] at hk)
  have hz7 : B ≤ w7.heap.size := by have := hgrow7.size; omega
  have HV7 : Hid (w7.ownsRow B 9 1 v7 pl ((xs.take pl).map Value.string)) := by
    show w7.ownsRow B 9 1 v7 pl ((xs.take pl).map Value.string)
    simpa using hown7
  have SB7 : Hid (Strs w7 b ys) := SB.out.below (by rw [HB.out]; exact hb7)
  clear hown7 hgrow7 hat7
  go_wp2_with (at_builtin; refine append_strs rfl _ _ rfl B v7 pl ((xs.take pl).map Value.string) rfl HV7.out b ys n cb HN.out rfl SB7.out (by omega) hz7 ?_)
  intro v8 w8 hown8 hgrow8 hat8
  have hb8 : Below B w w8 := hb7.grown hgrow8 hz7 (fun k hk => (HV7.out.lt k hk).1)
  have hz8 : B ≤ w8.heap.size := by have := hgrow8.size; omega
  have HV8 : Hid (w8.ownsRow B 9 1 v8 (pl + n) ((xs.take pl).map Value.string ++ ys.map Value.string)) := by
    show w8.ownsRow B 9 1 v8 (pl + n) ((xs.take pl).map Value.string ++ ys.map Value.string)
    simpa using hown8
  have SA8 : Hid (Strs w8 (sa a ca (pl + m1)) (xs.drop (pl + m1))) := HP3.out _ (SA.out.below (by rw [HB.out]; exact hb8))
  clear hown8 hgrow8 hat8 hb7 HV7 SB7
  go_wp2_with (at_builtin; refine append_strs rfl _ _ rfl B v8 (pl + n) ((xs.take pl).map Value.string ++ ys.map Value.string) rfl HV8.out (sa a ca (pl + m1)) (xs.drop (pl + m1)) (m - (pl + m1)) (ca - (pl + m1)) L3.out rfl SA8.out (by omega) hz8 ?_)
  intro v9 w9 hown9 hgrow9 hat9
  have hb9 : Below B w w9 := hb8.grown hgrow9 hz8 (fun k hk => (HV8.out.lt k hk).1)
  have e9 : (rep xs pl m1 ys).length = pl + n + (m - (pl + m1)) := by unfold rep; rw [List.length_append, List.length_append, L1.out, L3.out, HN.out]; omega
  have hO9 : w9.ownsRow B 9 1 v9 (rep xs pl m1 ys).length ((rep xs pl m1 ys).map Value.string) := by
    rw [e9]
    unfold rep
    simpa using hown9
  obtain ⟨ax, cx, rfl, hsx, hcx⟩ := strs_of_own_cap hO9
  clear hO9 hown9 hgrow9 hat9 HV8 SA8 e9
  go_wp2
  go_ret
  exact ⟨ax, cx, rfl, hsx, hb9, hcx⟩

end Go.Proofs.YtnkdmgekpajfhadGreatDoor
