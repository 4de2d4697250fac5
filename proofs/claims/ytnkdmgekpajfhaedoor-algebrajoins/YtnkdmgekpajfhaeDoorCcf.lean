/-
  Walks of slices.Grow and slices.Concat at lists of files: lists of files behind one another.
-/
import Derived.Test.YtnkdmgekpajfhaeDoorXw
namespace Go.Proofs.YtnkdmgekpajfhaeDoor
open Go.RowKit

/-- Nothing behind a row of one's own. -/
theorem run_append_nothing {P : Program} {w : World} (base : Nat) (t ty e : TypeId) (i : TypeInfo) (size c : Nat) (ht : P.underlying t = some (.slice e)) (hi : P.info? e = some i) (v : Value) (n : Nat) (xs : List Value) (hown : w.ownsRow base e size v n xs) :
    (Builtin.append_ #[t, t] ty #[v, .slice none 0 c]).run P w = .ok v w := by
  rcases hown.2 with ⟨rfl, rfl⟩ | ⟨g, cap, cur, rfl, _, _, hnc, _⟩
  · simp [Builtin.append_, run_underlying ht, sizeOf, typeInfo, hi, Builtin.lenOf, Builtin.firstCells]
  · simp [Builtin.append_, run_underlying ht, sizeOf, typeInfo, hi, Builtin.lenOf, Builtin.firstCells, hnc, storeCells]

theorem Fvs.plain {w : World} {xs : List Value} {l : List Fl} (h : Fvs w xs l) : ∀ u ∈ xs, u.oneCell' = true := by
  intro u hu
  obtain ⟨j, hj, rfl⟩ := List.getElem_of_mem hu
  have hl := h.1
  obtain ⟨am, cm, h1, h2, _⟩ := h.2 (j / 2) (by omega)
  rcases Nat.mod_two_eq_zero_or_one j with e | e
  · rw [show j / 2 * 2 = j by omega, List.getElem?_eq_getElem hj] at h1
    rw [Option.some.inj h1]; rfl
  · rw [show j / 2 * 2 + 1 = j by omega, List.getElem?_eq_getElem hj] at h2
    rw [Option.some.inj h2]; rfl

/-- Files behind a row of one's own. -/
theorem append_files {w0 w : World} {ops : Array Oper} {rest : List Oper} {o : Oper} {a : Act} {Q : Exit → Act → World → Prop} (hgd : o.guard = none) (s x : Operand)
    (ho : o.op = .call { callee := .builtin .append, args := #[s, x], argTypes := #[22, 22] }) (B : Nat) (v : Value) (n : Nat) (xs : List Value) (hs : a.eval s = v) (hown : w.ownsRow B 70 2 v n xs)
    (ax : Option Addr) (fs : List Fl) (m c : Nat) (hm : fs.length = m) (hx : a.eval x = .slice ax m c) (hst : Fls w0 ax fs) (hb : Below w0.heap.size w0 w) (h63 : n + m ≤ 100000) (hbase : B ≤ w.heap.size)
    (h : ∀ v' w' ys, w'.ownsRow B 70 2 v' (n + m) (xs ++ ys) → Fvs w0 ys fs → w.grownBy w' v.ownBlock → (v'.ownBlock = v.ownBlock ∨ v'.ownBlock = some w.heap.size) → wpList Tryd.prog ops Q rest (a.put o.dst v') w') : wpList Tryd.prog ops Q (o :: rest) a w := by
  obtain ⟨i0, hi, hz0, hz1, hz2⟩ := info_parts Tryd.infoFile
  subst hm
  obtain ⟨ys, hv, hc⟩ := hst.vals
  cases ax with
  | none =>
    have h0 : fs = [] := by
      cases fs with
      | nil => rfl
      | cons y r => obtain ⟨b, off, e, _⟩ := hc 0 (by simp); cases e
    subst h0
    have hy : ys = [] := List.length_eq_zero_iff.1 (by rw [hv.1]; rfl)
    subst hy
    refine Lib.wpList_append_run w hgd s x 22 22 ho _ _ hs hx v w (run_append_nothing B 22 o.type 70 i0 2 c Tryd.underlying22 hi v n xs hown) ?_
    exact h v w [] (by simpa using hown) hv ⟨rfl, rfl, rfl, Nat.le_refl _, fun _ _ _ => rfl⟩ (.inl rfl)
  | some ad =>
    refine wpList_append_own_at w hgd s x 22 ho B 70 i0 (.agg #[.string ByteArray.empty, .slice none 0 0]) 2 40 Tryd.underlying22 hi hz0 hz1 hz2 rfl (by decide) v n xs hs hown ad fs.length c ys hx hv.1 (fun j u hj => ?_) hv.plain (by unfold maxLen; omega) (by omega) hbase (fun v' w' h1 h2 _ h4 => h v' w' ys h1 hv h2 h4)
    have hjl : j < fs.length * 2 := by
      rw [← hv.1]
      by_cases e : j < ys.length
      · exact e
      · rw [List.getElem?_eq_none (by omega)] at hj; simp at hj
    obtain ⟨b, off, e, hcc⟩ := hc j hjl
    obtain rfl := Option.some.inj e
    rw [add_some]
    exact cell_later hb (hcc.trans hj)

set_option maxHeartbeats 1000000 in
theorem growF (n : Nat) (w : World) (hn : n ≤ 100000) : Calls Tryd.prog 54 #[.slice none 0 0, .int .i64 n] w fun e w' => ∃ v, e = .returned v ∧ w'.ownsRow w.heap.size 70 2 v 0 [] ∧ Below w.heap.size w w' := by
  by_cases h0 : n = 0
  · subst h0
    go_enter Tryd.func54, Tryd.ntmps54
    go_wp2
    go_ret
    exact ⟨_, rfl, World.ownsRow_nil _ _ _ _, Below.refl _ _⟩
  · obtain ⟨i0, hi, hz0, hz1, hz2⟩ := info_parts Tryd.infoFile
    have hrz : ∀ ty, (Builtin.append_ #[22, 3] ty #[.slice none 0 0, .int .i64 n]).run Tryd.prog w = .ok (.slice (some ⟨w.heap.size, 0, none⟩) n (grownCap w n 0 70)) (w.drew.alloc (.cells (Builtin.zeroCells (Value.agg #[.string ByteArray.empty, .slice none 0 0]).cells n ++ Builtin.zeroCells (Value.agg #[.string ByteArray.empty, .slice none 0 0]).cells (grownCap w n 0 70 - n)) 70)) := fun ty =>
      Lib.run_append_nil_zeros w 22 3 ty 70 i0 _ .i64 .i64 Tryd.underlying22 Tryd.underlying3 hi hz0 n (by omega) (by rw [hz1]; decide) (by omega) (by rw [hz2]; omega)
    have hge : n ≤ grownCap w n 0 70 := grownCap_ge w _ _ _
    have hle := grownCap_le_maxLen w n 0 70 (by unfold maxLen; omega)
    obtain ⟨G, hG⟩ : ∃ G, G = grownCap w n 0 70 := ⟨_, rfl⟩
    rw [← hG] at hrz hge hle
    obtain ⟨Z, hZ⟩ : ∃ Z, (Builtin.zeroCells (Value.agg #[.string ByteArray.empty, .slice none 0 0]).cells n ++ Builtin.zeroCells (Value.agg #[.string ByteArray.empty, .slice none 0 0]).cells (G - n)) = Z := ⟨_, rfl⟩
    have hsz : Hid (Z.size = G * 2) := by
      show Z.size = G * 2
      rw [← hZ]
      simp [Builtin.zeroCells, Value.cells]; omega
    rw [hZ] at hrz
    have HLE : Hid (G ≤ maxLen) := hle
    unfold maxLen at hle
    have hpos : 0 < n := by omega
    have hto := fun w => run_files_to (some ⟨w.heap.size, 0, none⟩) n G 0 (Nat.zero_le _) w 0 rfl
    clear hG h0 hi hz0 hz1 hz2 hZ
    go_enter Tryd.func54, Tryd.ntmps54
    go_wp2_with (at_builtin; refine Lib.wpList_append_run _ rfl _ _ _ _ rfl _ _ rfl rfl _ _ (hrz _) ?_)
    go_ret
    refine ⟨_, rfl, ?_, ?_⟩
    · have := World.ownsRow_made (base := w.heap.size) (e := 70) (size := 2) w.drew _ G (Nat.le_refl _) HLE.out hsz.out
      exact this
    · exact (show Below w.heap.size w w.drew from ⟨rfl, rfl, rfl, Nat.le_refl _, fun _ _ => rfl⟩).alloc (Nat.le_refl _) _

/-- Lists of files as they lie in memory. -/
def Fts (w : World) (a : Option Addr) (ps : List (List Fl)) : Prop :=
  ∀ i : Nat, i < ps.length → ∃ b off ai ci, a = some ⟨b, off, none⟩ ∧ w.cell? ⟨b, off + i, none⟩ = some (.slice ai (ps.getD i []).length ci) ∧ Fls w ai (ps.getD i [])

theorem Fts.below {w w' : World} {a : Option Addr} {ps : List (List Fl)} (h : Fts w a ps) (hb : Below w.heap.size w w') : Fts w' a ps := by
  intro i hi
  obtain ⟨b, off, ai, ci, rfl, h1, h2⟩ := h i hi
  exact ⟨b, off, ai, ci, rfl, cell_later hb h1, h2.below hb⟩

theorem flatF_snoc (ps : List (List Fl)) (k : Nat) (hk : k < ps.length) : (ps.take (k + 1)).flatten = (ps.take k).flatten ++ ps.getD k [] := by
  have e : ps.getD k [] = ps[k] := by simp [hk]
  rw [e, List.take_succ_eq_append_getElem hk, List.flatten_append, List.flatten_cons, List.flatten_nil, List.append_nil]

theorem flatF_le (ps : List (List Fl)) (k : Nat) : (ps.take k).flatten.length ≤ ps.flatten.length := by
  conv => rhs; rw [← List.take_append_drop k ps, List.flatten_append, List.length_append]
  omega

set_option maxRecDepth 100000 in
set_option maxHeartbeats 2000000 in
theorem concatF (a : Option Addr) (ps : List (List Fl)) (ca : Nat) (w : World) (ha : Fts w a ps) (hl : ps.flatten.length ≤ 50000) (hn : ps.length ≤ 1000) :
    Calls Tryd.prog 26 #[.slice a ps.length ca] w fun e w' => ∃ a' cap, e = .returned (.slice a' ps.flatten.length cap) ∧ Fls w' a' ps.flatten ∧ Below w.heap.size w w' := by
  obtain ⟨n, hn'⟩ : ∃ n, ps.length = n := ⟨_, rfl⟩
  rw [hn'] at hn ⊢
  have HN : Hid (ps.length = n) := hn'
  have HA : Hid (Fts w a ps) := ha
  have HL : Hid (ps.flatten.length ≤ 50000) := hl
  clear hn' ha hl
  obtain ⟨B, hB⟩ : ∃ B, w.heap.size = B := ⟨_, rfl⟩
  have HB : Hid (w.heap.size = B) := hB
  rw [hB]
  clear hB
  go_enter Tryd.func26, Tryd.ntmps26
  go_wp2
  go_loop [3, 5, 11] (fun v _ i => ∃ k : Nat, k ≤ n ∧ i = .int .i64 k ∧ v = .int .i64 (ps.take k).flatten.length) (fun _ _ i => n - (intOf i).toNat)
  case atStart => exact ⟨0, Nat.zero_le _, rfl, rfl⟩
  case round =>
    obtain ⟨k, hk, rfl, rfl⟩ := hrel
    by_cases hlt : k < n
    · have ha := HA.out
      have hkl : k < ps.length := by rw [HN.out]; exact hlt
      obtain ⟨b, off, ai, ci, rfl, hc, _⟩ := ha k hkl
      have HS : Hid ((ps.take (k + 1)).flatten.length = (ps.take k).flatten.length + (ps.getD k []).length) := by
        show (ps.take (k + 1)).flatten.length = _
        rw [flatF_snoc ps k hkl, List.length_append]
      have h1 := flatF_le ps k
      have h2 := flatF_le ps (k + 1)
      rw [HS.out] at h2
      have h3 := HL.out
      obtain ⟨x, hx⟩ : ∃ x, (ps.getD k []).length = x := ⟨_, rfl⟩
      obtain ⟨d, hd⟩ : ∃ d, (ps.take k).flatten.length = d := ⟨_, rfl⟩
      rw [hx] at hc HS h2
      rw [hd] at HS h1 h2 ⊢
      have h4 : d + x ≤ 50000 := by omega
      clear ha hkl hx hd h1 h2 h3
      go_wp2
      go_round
      case rel => exact ⟨k + 1, by omega, by go_num, by rw [HS.out]; go_num⟩
      case measure => simp [intOf]; omega
    · have e : (ps.take k).flatten.length = ps.flatten.length := by rw [List.take_of_length_le (by have := HN.out; omega)]
      have h3 := HL.out
      rw [e]
      obtain ⟨T, hT⟩ : ∃ T, ps.flatten.length = T := ⟨_, rfl⟩
      have HT : Hid (ps.flatten.length = T) := hT
      rw [hT] at h3
      rw [hT]
      clear e hT
      have hgr := growF T w (by omega)
      rw [HB.out] at hgr
      go_wp2_with (go_at_call 54; refine hgr.mono ?_)
      rintro e w0 v0 rfl ho0 hb0
      have HO0 : Hid (w0.ownsRow B 70 2 v0 0 []) := ho0
      have HB0 : Hid (Below B w w0) := hb0
      clear hgr ho0 hb0
      go_wp2
      go_loopw [6, 8, 27] (fun v _ i w1 => ∃ k : Nat, k ≤ n ∧ i = .int .i64 k ∧ Below B w w1 ∧ ∃ xs, w1.ownsRow B 70 2 v (ps.take k).flatten.length xs ∧ Fvs w xs (ps.take k).flatten) (fun _ _ i _ => n - (intOf i).toNat)
      case atStart => exact ⟨0, Nat.zero_le _, rfl, HB0.out, [], HO0.out, Fvs.nil _⟩
      case round =>
        obtain ⟨k, hk, rfl, hbl, xs, hown, hvs⟩ := hrel
        by_cases hlt : k < n
        · have ha := HA.out
          have hkl : k < ps.length := by rw [HN.out]; exact hlt
          obtain ⟨b, off, ai, ci, rfl, hc, hst⟩ := ha k hkl
          replace hc := cell_later (by rw [HB.out]; exact hbl) hc
          have HS : Hid ((ps.take (k + 1)).flatten = (ps.take k).flatten ++ ps.getD k []) := flatF_snoc ps k hkl
          have h2 := flatF_le ps (k + 1)
          rw [HS.out, List.length_append] at h2
          have h3 := HL.out
          obtain ⟨ss, hss⟩ : ∃ ss, ps.getD k [] = ss := ⟨_, rfl⟩
          obtain ⟨done, hd⟩ : ∃ done, (ps.take k).flatten = done := ⟨_, rfl⟩
          rw [hss] at hc hst HS h2
          rw [hd] at HS hown h2 hvs
          obtain ⟨m, hm⟩ : ∃ m, ss.length = m := ⟨_, rfl⟩
          obtain ⟨dl, hdl⟩ : ∃ dl, done.length = dl := ⟨_, rfl⟩
          have HDL : Hid (done.length = dl) := hdl
          have HM : Hid (ss.length = m) := hm
          have HST : Hid (Fls w ai ss) := hst
          have HVS : Hid (Fvs w xs done) := hvs
          have HBL : Hid (Below w.heap.size w wr) := by rw [HB.out]; exact hbl
          rw [hm] at hc h2
          rw [hdl] at hown h2
          have h4 : dl + m ≤ 100000 := by omega
          have hszB : B ≤ wr.heap.size := by have := hbl.size; have := HB.out; omega
          clear ha hkl hss hd hm hdl hst h2 h3 hvs
          go_wp2_with (at_builtin; refine append_files rfl _ _ rfl B _ _ _ rfl hown ai ss m ci HM.out rfl HST.out HBL.out h4 hszB ?_; intro v' w3 ys hown' hvs' hgrow3 hat3)
          go_roundw
          case rel =>
            refine ⟨k + 1, by omega, by go_num, ?_, xs ++ ys, ?_, ?_⟩
            · exact hbl.grown hgrow3 hszB (fun j hj => (hown.lt j hj).1)
            · rw [HS.out, List.length_append, HDL.out, HM.out]; exact hown'
            · rw [HS.out]; exact HVS.out.append hvs'
          case measure => simp [intOf]; omega
        · go_wp2
          go_ret
          rw [List.take_of_length_le (by have := HN.out; omega)] at hown hvs
          obtain ⟨a', cap, rfl, hst, _⟩ := fls_of_own hown (hvs.below (by rw [HB.out]; exact hbl))
          rw [HT.out] at *
          exact ⟨a', cap, rfl, hst, hbl⟩

end Go.Proofs.YtnkdmgekpajfhaeDoor
