/-
  Parts of slices of texts, with letters for their bounds. Walks of slices.Equal, slices.Grow, slices.Concat at lists of texts, and of line.Copy: whether two lists of lines are the same, lists behind one another, the same lines in memory of their own.
-/
import Derived.Test.YtnkdmgekpajfhadGreatDoorXba
import Derived.Lib.AppendZeros

namespace Go.Proofs.YtnkdmgekpajfhadGreatDoor
open Go.RowKit Dist

/-- Where a part of a slice lies. -/
def sa (a : Option Addr) (cap lo : Nat) : Option Addr := if cap = lo then a else a.map (·.add lo)

theorem run_slice_at (a : Option Addr) (len cap lo hi : Nat) (h1 : lo ≤ hi) (h2 : hi ≤ cap) (w : World) (l h : Int) (hl : l = lo) (hh : h = hi) : (Instr.slice 58 (.slice a len cap) (some (.int .i64 l)) (some (.int .i64 h)) none).run Tryz.prog w = .ok (.slice (sa a cap lo) (hi - lo) (cap - lo)) w := by
  obtain ⟨i0, hi0, hz0, hz1, hz2⟩ := info_parts Tryz.info9
  subst hl hh
  have hsz : ∀ w, (Go.sizeOf 9).run Tryz.prog w = .ok 1 w := fun w => by simp [Go.sizeOf, typeInfo, hi0, hz1]
  have b1 : (0 : Int) ≤ lo ∧ (lo : Int) ≤ hi := by omega
  have b2 : (0 : Int) ≤ hi ∧ (hi : Int) ≤ cap := by omega
  simp only [Instr.slice, Instr.sliceBounds, Instr.sliceBound, run_underlying Tryz.underlying58, Sem.run_bind, Sem.run_pure, Result.andThen_ok, asIntOf, b1, b2, hsz, sa, Nat.mul_one, if_true, and_self, Int.toNat_natCast]

theorem run_slice_from (a : Option Addr) (len cap lo : Nat) (h1 : lo ≤ len) (w : World) (l : Int) (hl : l = lo) : (Instr.slice 58 (.slice a len cap) (some (.int .i64 l)) none none).run Tryz.prog w = .ok (.slice (sa a cap lo) (len - lo) (cap - lo)) w := by
  obtain ⟨i0, hi0, hz0, hz1, hz2⟩ := info_parts Tryz.info9
  subst hl
  have hsz : ∀ w, (Go.sizeOf 9).run Tryz.prog w = .ok 1 w := fun w => by simp [Go.sizeOf, typeInfo, hi0, hz1]
  have b1 : (0 : Int) ≤ lo ∧ (lo : Int) ≤ len := by omega
  simp only [Instr.slice, Instr.sliceBounds, Instr.sliceBound, run_underlying Tryz.underlying58, Sem.run_bind, Sem.run_pure, Result.andThen_ok, asIntOf, b1, hsz, sa, Nat.mul_one, if_true, and_self, Int.toNat_natCast]

/-- A part of lines, where it lies. -/
theorem Strs.part {w : World} {a : Option Addr} {xs : List ByteArray} (h : Strs w a xs) {cap : Nat} (hc : xs.length ≤ cap) (lo hi : Nat) : Strs w (sa a cap lo) ((xs.take hi).drop lo) := by
  intro i hi'
  rw [List.length_drop, List.length_take] at hi'
  obtain ⟨b, off, rfl, h1⟩ := h (lo + i) (by omega)
  refine ⟨b, off + lo, ?_, ?_⟩
  · unfold sa
    rw [if_neg (by omega), Option.map_some]
    have e3 : (⟨b, off, none⟩ : Addr).add lo = ⟨b, off + lo, none⟩ := by
      unfold Addr.add
      by_cases h0 : lo = 0
      · subst h0; rfl
      · simp [h0]
    rw [e3]
  · have e2 : ((xs.take hi).drop lo).getD i ByteArray.empty = xs.getD (lo + i) ByteArray.empty := by
      simp [List.getElem?_drop, show lo + i < hi by omega]
    rw [e2, Nat.add_assoc]
    exact h1

end Go.Proofs.YtnkdmgekpajfhadGreatDoor

namespace Go.Proofs.YtnkdmgekpajfhadGreatDoor
open Go.RowKit

set_option maxHeartbeats 400000 in
theorem equal_len (a b : Option Addr) (m n ca cb : Nat) (w : World) (h : m ≠ n) : Calls Tryz.prog 69 #[.slice a m ca, .slice b n cb] w fun e w' => e = .returned (.bool false) ∧ w' = w := by
  have h' : ((m : Int) != (n : Int)) = true := by simp; omega
  go_enter Tryz.func69, Tryz.ntmps69
  go_wp2
  go_ret
  exact ⟨rfl, rfl⟩

set_option maxHeartbeats 1000000 in
theorem equal_same (a b : Option Addr) (xs ys : List ByteArray) (ca cb : Nat) (w : World) (ha : Strs w a xs) (hb : Strs w b ys) (hl : xs.length = ys.length) (hm : xs.length ≤ maxLen) :
    Calls Tryz.prog 69 #[.slice a xs.length ca, .slice b ys.length cb] w fun e w' => e = .returned (.bool (decide (xs = ys))) ∧ ∃ n, w' = w.drewN n := by
  unfold maxLen at hm
  obtain ⟨n, hn⟩ : ∃ n, ys.length = n := ⟨_, rfl⟩
  rw [hn] at hl ⊢
  rw [hl]
  have HN : Hid (ys.length = n) := hn
  have HL : Hid (xs.length = n) := hl
  rw [hl] at hm
  clear hn hl
  go_enter Tryz.func69, Tryz.ntmps69
  go_wp2
  go_loopw [5, 13] (fun _ i w1 => ∃ k : Nat, k ≤ n ∧ i = .int .i64 k ∧ (∃ q, w1 = w.drewN q) ∧ ∀ j : Nat, j < k → xs.getD j ByteArray.empty = ys.getD j ByteArray.empty) (fun _ i _ => n - (intOf i).toNat)
  case atStart => exact ⟨0, Nat.zero_le _, rfl, ⟨0, rfl⟩, by simp⟩
  case round =>
    obtain ⟨k, hk, rfl, ⟨q, rfl⟩, hall⟩ := hrel
    have HA : Hid (∀ j : Nat, j < k → xs.getD j ByteArray.empty = ys.getD j ByteArray.empty) := hall
    clear hall
    by_cases hlt : k < n
    · obtain ⟨ba, oa, rfl, hca⟩ := Strs.at ha (i := k) (by rw [HL.out]; exact hlt)
      obtain ⟨bb, ob, rfl, hcb⟩ := Strs.at hb (i := k) (by rw [HN.out]; exact hlt)
      have hca := hca k (by rw [HL.out]; exact hlt)
      have hcb := hcb k (by rw [HN.out]; exact hlt)
      obtain ⟨x, hx⟩ : ∃ x, xs.getD k ByteArray.empty = x := ⟨_, rfl⟩
      obtain ⟨y, hy⟩ : ∃ y, ys.getD k ByteArray.empty = y := ⟨_, rfl⟩
      rw [hx] at hca
      rw [hy] at hcb
      have HX : Hid (xs.getD k ByteArray.empty = x) := hx
      have HY : Hid (ys.getD k ByteArray.empty = y) := hy
      clear hx hy ha hb
      by_cases he : (x.toList == y.toList) = true
      · have HE : Hid (x = y) := by
          have := beq_iff_eq.1 he
          rw [Lib.toList_data, Lib.toList_data] at this
          exact ByteArray.ext (Array.toList_inj.1 this)
        go_wp2
        go_quiet (fail)
        go_wp2
        go_round
        case rel => exact ⟨k + 1, by omega, by go_num, ⟨_, rfl⟩, fun j hj => by
          by_cases e : j = k
          · subst e; rw [HX.out, HY.out]; exact HE.out
          · exact HA.out j (by omega)⟩
        case measure => simp [intOf]; omega
      · have he : (x.toList == y.toList) = false := by simpa using he
        go_wp2
        go_quiet (fail)
        go_wp2
        go_ret
        refine ⟨ret_b ?_, q + nq, by simp⟩
        symm
        rw [decide_eq_false_iff_not]
        intro e
        have e2 := HX.out
        rw [e, HY.out] at e2
        subst e2
        simp at he
    · go_wp2
      go_ret
      refine ⟨ret_b ?_, _, rfl⟩
      symm
      rw [decide_eq_true_eq]
      apply List.ext_getElem
      · rw [HL.out, HN.out]
      · intro j h1 h2
        have := HA.out j (by have := HL.out; omega)
        simpa [h1, h2] using this

theorem equalS (a b : Option Addr) (xs ys : List ByteArray) (ca cb : Nat) (w : World) (ha : Strs w a xs) (hb : Strs w b ys) (hm : xs.length ≤ maxLen) :
    Calls Tryz.prog 69 #[.slice a xs.length ca, .slice b ys.length cb] w fun e w' => e = .returned (.bool (decide (xs = ys))) ∧ Below w.heap.size w w' := by
  by_cases hl : xs.length = ys.length
  · exact (equal_same a b xs ys ca cb w ha hb hl hm).mono fun e w' ⟨he, n, hw⟩ => ⟨he, by rw [hw]; exact below_drawn (Below.refl _ _)⟩
  · refine (equal_len a b xs.length ys.length ca cb w hl).mono fun e w' ⟨he, hw⟩ => ⟨?_, by rw [hw]; exact Below.refl _ _⟩
    rw [he]
    exact ret_b (by symm; rw [decide_eq_false_iff_not]; intro e; exact hl (by rw [e]))

/-- Nothing behind a row of one's own. -/
theorem run_append_none_any {P : Program} {w : World} (base : Nat) (t ty e : TypeId) (i : TypeInfo) (size c : Nat) (ht : P.underlying t = some (.slice e)) (hi : P.info? e = some i) (v : Value) (n : Nat) (xs : List Value) (hown : w.ownsRow base e size v n xs) :
    (Builtin.append_ #[t, t] ty #[v, .slice none 0 c]).run P w = .ok v w := by
  rcases hown.2 with ⟨rfl, rfl⟩ | ⟨g, cap, cur, rfl, _, _, hnc, _⟩
  · simp [Builtin.append_, run_underlying ht, sizeOf, typeInfo, hi, Builtin.lenOf, Builtin.firstCells]
  · simp [Builtin.append_, run_underlying ht, sizeOf, typeInfo, hi, Builtin.lenOf, Builtin.firstCells, hnc, storeCells]

/-- Lines behind a row of one's own. -/
theorem append_strs {w : World} {ops : Array Oper} {rest : List Oper} {o : Oper} {a : Act} {Q : Exit → Act → World → Prop} (hgd : o.guard = none) (s x : Operand)
    (ho : o.op = .call { callee := .builtin .append, args := #[s, x], argTypes := #[58, 58] }) (B : Nat) (v : Value) (n : Nat) (xs : List Value) (hs : a.eval s = v) (hown : w.ownsRow B 9 1 v n xs)
    (ax : Option Addr) (ss : List ByteArray) (m c : Nat) (hm : ss.length = m) (hx : a.eval x = .slice ax m c) (hst : Strs w ax ss) (h63 : n + m ≤ 100000) (hbase : B ≤ w.heap.size)
    (h : ∀ v' w', w'.ownsRow B 9 1 v' (n + m) (xs ++ ss.map Value.string) → w.grownBy w' v.ownBlock → (v'.ownBlock = v.ownBlock ∨ v'.ownBlock = some w.heap.size) → wpList Tryz.prog ops Q rest (a.put o.dst v') w') : wpList Tryz.prog ops Q (o :: rest) a w := by
  obtain ⟨i0, hi, hz0, hz1, hz2⟩ := info_parts Tryz.info9
  subst hm
  cases ax with
  | none =>
    have h0 : ss = [] := by
      cases ss with
      | nil => rfl
      | cons y r => obtain ⟨b, off, e, _⟩ := hst 0 (by simp); cases e
    subst h0
    refine Lib.wpList_append_run w hgd s x 58 58 ho _ _ hs hx v w (run_append_none_any B 58 o.type 9 i0 1 c Tryz.underlying58 hi v n xs hown) ?_
    exact h v w (by simpa using hown) ⟨rfl, rfl, rfl, Nat.le_refl _, fun _ _ _ => rfl⟩ (.inl rfl)
  | some ad =>
    refine wpList_append_own_at w hgd s x 58 ho B 9 i0 (.string ByteArray.empty) 1 16 Tryz.underlying58 hi hz0 hz1 hz2 rfl (by decide) v n xs hs hown ad ss.length c (ss.map Value.string) hx (by simp) (fun j u hj => ?_) (fun u hu => ?_) (by unfold maxLen; omega) (by omega) hbase (fun v' w' h1 h2 _ h4 => h v' w' h1 h2 h4)
    · rw [List.getElem?_map] at hj
      have hjl : j < ss.length := by
        by_cases e : j < ss.length
        · exact e
        · rw [List.getElem?_eq_none (by omega)] at hj; simp at hj
      obtain ⟨b, off, e, hc⟩ := hst j hjl
      obtain rfl := Option.some.inj e
      rw [List.getElem?_eq_getElem hjl] at hj
      simp only [Option.map_some, Option.some.injEq] at hj
      rw [← hj]
      have e2 : ss.getD j ByteArray.empty = ss[j] := by simp [hjl]
      rw [e2] at hc
      have e3 : (⟨b, off, none⟩ : Addr).add j = ⟨b, off + j, none⟩ := by
        unfold Addr.add
        by_cases h0 : j = 0
        · subst h0; rfl
        · simp [h0]
      rw [e3]; exact hc
    · obtain ⟨y, _, rfl⟩ := List.mem_map.1 hu
      rfl

set_option maxHeartbeats 1000000 in
theorem growS (n : Nat) (w : World) (hn : n ≤ 100000) : Calls Tryz.prog 166 #[.slice none 0 0, .int .i64 n] w fun e w' => ∃ v, e = .returned v ∧ w'.ownsRow w.heap.size 9 1 v 0 [] ∧ Below w.heap.size w w' := by
  by_cases h0 : n = 0
  · subst h0
    go_enter Tryz.func166, Tryz.ntmps166
    go_wp2
    go_ret
    exact ⟨_, rfl, World.ownsRow_nil _ _ _ _, Below.refl _ _⟩
  · obtain ⟨i0, hi, hz0, hz1, hz2⟩ := info_parts Tryz.info9
    have hrz : ∀ ty, (Builtin.append_ #[58, 3] ty #[.slice none 0 0, .int .i64 n]).run Tryz.prog w = .ok (.slice (some ⟨w.heap.size, 0, none⟩) n (grownCap w n 0 9)) (w.drew.alloc (.cells (Builtin.zeroCells (Value.string ByteArray.empty).cells n ++ Builtin.zeroCells (Value.string ByteArray.empty).cells (grownCap w n 0 9 - n)) 9)) := fun ty =>
      Lib.run_append_nil_zeros w 58 3 ty 9 i0 _ .i64 .i64 Tryz.underlying58 Tryz.underlying3 hi hz0 n (by omega) (by rw [hz1]; decide) (by omega) (by rw [hz2]; omega)
    have hge : n ≤ grownCap w n 0 9 := grownCap_ge w _ _ _
    have hle := grownCap_le_maxLen w n 0 9 (by unfold maxLen; omega)
    obtain ⟨G, hG⟩ : ∃ G, G = grownCap w n 0 9 := ⟨_, rfl⟩
    rw [← hG] at hrz hge hle
    have hsz : Hid ((Builtin.zeroCells (Value.string ByteArray.empty).cells n ++ Builtin.zeroCells (Value.string ByteArray.empty).cells (G - n)).size = G * 1) := by
      show (Builtin.zeroCells (Value.string ByteArray.empty).cells n ++ Builtin.zeroCells (Value.string ByteArray.empty).cells (G - n)).size = G * 1
      simp [Builtin.zeroCells, Value.cells]; omega
    have HLE : Hid (G ≤ maxLen) := hle
    unfold maxLen at hle
    have hpos : 0 < n := by omega
    clear hG h0 hi hz0 hz1 hz2
    go_enter Tryz.func166, Tryz.ntmps166
    go_wp2_with (at_builtin; refine Lib.wpList_append_run _ rfl _ _ _ _ rfl _ _ rfl rfl _ _ (hrz _) ?_)
    go_ret
    refine ⟨_, rfl, ?_, ?_⟩
    · have := World.ownsRow_made (base := w.heap.size) (e := 9) (size := 1) w.drew _ G (Nat.le_refl _) HLE.out hsz.out
      exact this
    · exact (show Below w.heap.size w w.drew from ⟨rfl, rfl, rfl, Nat.le_refl _, fun _ _ => rfl⟩).alloc (Nat.le_refl _) _

/-- Lists of lines as they lie in memory. -/
def Pts (w : World) (a : Option Addr) (ps : List (List ByteArray)) : Prop :=
  ∀ i : Nat, i < ps.length → ∃ b off ai ci, a = some ⟨b, off, none⟩ ∧ w.cell? ⟨b, off + i, none⟩ = some (.slice ai (ps.getD i []).length ci) ∧ Strs w ai (ps.getD i [])

theorem Pts.below {w w' : World} {a : Option Addr} {ps : List (List ByteArray)} (h : Pts w a ps) (hb : Below w.heap.size w w') : Pts w' a ps := by
  intro i hi
  obtain ⟨b, off, ai, ci, rfl, h1, h2⟩ := h i hi
  exact ⟨b, off, ai, ci, rfl, cell_later hb h1, h2.below hb⟩

theorem flat_snoc (ps : List (List ByteArray)) (k : Nat) (hk : k < ps.length) : (ps.take (k + 1)).flatten = (ps.take k).flatten ++ ps.getD k [] := by
  have e : ps.getD k [] = ps[k] := by simp [hk]
  rw [e, List.take_succ_eq_append_getElem hk, List.flatten_append, List.flatten_cons, List.flatten_nil, List.append_nil]

theorem flat_le (ps : List (List ByteArray)) (k : Nat) : (ps.take k).flatten.length ≤ ps.flatten.length := by
  conv => rhs; rw [← List.take_append_drop k ps, List.flatten_append, List.length_append]
  omega

theorem strs_of_own_cap {B : Nat} {v : Value} {ss : List ByteArray} {w : World} (h : w.ownsRow B 9 1 v ss.length (ss.map Value.string)) : ∃ a cap, v = .slice a ss.length cap ∧ Strs w a ss ∧ ss.length ≤ cap := by
  obtain ⟨a, cap, rfl, hst⟩ := strs_of_own h
  refine ⟨a, cap, rfl, hst, ?_⟩
  rcases h.2 with ⟨e, h0⟩ | ⟨g, cap', cur, e, _, _, h1, _⟩
  · omega
  · simp only [Value.slice.injEq] at e
    omega

/-- What lies there is of texts. -/
def TypS (w : World) (a : Option Addr) : Prop := ∀ b off sp, a = some ⟨b, off, sp⟩ → ∃ (cs : Array Value) (fr : Nat × Nat), w.heap[b]? = some (.cells cs 9 fr)

theorem TypS.below {w w' : World} {a : Option Addr} (h : TypS w a) (hb : Below w.heap.size w w') : TypS w' a := by
  intro b off sp e
  obtain ⟨cs, fr, hc⟩ := h b off sp e
  have hl : b < w.heap.size := by
    by_cases e : b < w.heap.size
    · exact e
    · rw [Array.getElem?_eq_none (by omega)] at hc; cases hc
  exact ⟨cs, fr, blk_below hb hl hc⟩

theorem own_typed {B n c : Nat} {a : Option Addr} {xs : List Value} {w : World} (h : w.ownsRow B 9 1 (.slice a n c) n xs) : TypS w a := by
  intro b off sp e
  rcases h.2 with ⟨e2, _⟩ | ⟨g, cap, cur, e2, _, hh, _⟩
  · simp only [Value.slice.injEq] at e2
    rw [e2.1] at e; cases e
  · simp only [Value.slice.injEq] at e2
    rw [e2.1] at e
    simp only [Option.some.injEq, Addr.mk.injEq] at e
    obtain ⟨rfl, _, _⟩ := e
    exact ⟨cur, (0, 0), hh⟩

set_option maxRecDepth 100000 in
set_option maxHeartbeats 2000000 in
theorem concatS (a : Option Addr) (ps : List (List ByteArray)) (ca : Nat) (w : World) (ha : Pts w a ps) (hl : ps.flatten.length ≤ 50000) (hn : ps.length ≤ 1000) :
    Calls Tryz.prog 145 #[.slice a ps.length ca] w fun e w' => ∃ a' cap, e = .returned (.slice a' ps.flatten.length cap) ∧ Strs w' a' ps.flatten ∧ Below w.heap.size w w' ∧ ps.flatten.length ≤ cap ∧ TypS w' a' := by
  obtain ⟨n, hn'⟩ : ∃ n, ps.length = n := ⟨_, rfl⟩
  rw [hn'] at hn ⊢
  have HN : Hid (ps.length = n) := hn'
  have HA : Hid (Pts w a ps) := ha
  have HL : Hid (ps.flatten.length ≤ 50000) := hl
  clear hn' ha hl
  obtain ⟨B, hB⟩ : ∃ B, w.heap.size = B := ⟨_, rfl⟩
  have HB : Hid (w.heap.size = B) := hB
  rw [hB]
  clear hB
  go_enter Tryz.func145, Tryz.ntmps145
  go_wp2
  go_loop [3, 5, 11] (fun v _ i => ∃ k : Nat, k ≤ n ∧ i = .int .i64 k ∧ v = .int .i64 (ps.take k).flatten.length) (fun _ _ i => n - (intOf i).toNat)
  case atStart => exact ⟨0, Nat.zero_le _, rfl, rfl⟩
  case round =>
    obtain ⟨k, hk, rfl, rfl⟩ := hrel
    by_cases hlt : k < n
    · have ha := HA.out
      have hkl : k < ps.length := by rw [HN.out]; exact hlt
      obtain ⟨b, off, ai, ci, rfl, hc, _⟩ := ha k hkl
      have HS : Hid ((ps.take (k + 1)).flatten.length = (ps.take k).flatten.length + (ps.getD k []).length) := by
        show (ps.take (k + 1)).flatten.length = _
        rw [flat_snoc ps k hkl, List.length_append]
      have h1 := flat_le ps k
      have h2 := flat_le ps (k + 1)
      rw [HS.out] at h2
      have h3 := HL.out
      obtain ⟨x, hx⟩ : ∃ x, (ps.getD k []).length = x := ⟨_, rfl⟩
      obtain ⟨d, hd⟩ : ∃ d, (ps.take k).flatten.length = d := ⟨_, rfl⟩
      rw [hx] at hc HS h2
      rw [hd] at HS h1 h2 ⊢
      have h4 : d + x ≤ 50000 := by omega
      clear ha hkl hx hd h1 h2 h3
      go_wp2
      go_round
      case rel => exact ⟨k + 1, by omega, by go_num, by rw [HS.out]; go_num⟩
      case measure => simp [intOf]; omega
    · have e : (ps.take k).flatten.length = ps.flatten.length := by rw [List.take_of_length_le (by have := HN.out; omega)]
      have h3 := HL.out
      rw [e]
      obtain ⟨T, hT⟩ : ∃ T, ps.flatten.length = T := ⟨_, rfl⟩
      have HT : Hid (ps.flatten.length = T) := hT
      rw [hT] at h3
      rw [hT]
      clear e hT
      have hgr := growS T w (by omega)
      rw [HB.out] at hgr
      go_wp2_with (go_at_call 166; refine hgr.mono ?_)
      rintro e w0 v0 rfl ho0 hb0
      have HO0 : Hid (w0.ownsRow B 9 1 v0 0 []) := ho0
      have HB0 : Hid (Below B w w0) := hb0
      clear hgr ho0 hb0
      go_wp2
      go_loopw [6, 8, 27] (fun v _ i w1 => ∃ k : Nat, k ≤ n ∧ i = .int .i64 k ∧ Below B w w1 ∧ w1.ownsRow B 9 1 v (ps.take k).flatten.length ((ps.take k).flatten.map Value.string)) (fun _ _ i _ => n - (intOf i).toNat)
      case atStart => exact ⟨0, Nat.zero_le _, rfl, HB0.out, HO0.out⟩
      case round =>
        obtain ⟨k, hk, rfl, hbl, hown⟩ := hrel
        by_cases hlt : k < n
        · have ha := HA.out
          have hkl : k < ps.length := by rw [HN.out]; exact hlt
          obtain ⟨b, off, ai, ci, rfl, hc, hst⟩ := ha k hkl
          replace hc := cell_later (by rw [HB.out]; exact hbl) hc
          replace hst := hst.below (by rw [HB.out]; exact hbl)
          have HS : Hid ((ps.take (k + 1)).flatten = (ps.take k).flatten ++ ps.getD k []) := flat_snoc ps k hkl
          have h2 := flat_le ps (k + 1)
          rw [HS.out, List.length_append] at h2
          have h3 := HL.out
          obtain ⟨ss, hss⟩ : ∃ ss, ps.getD k [] = ss := ⟨_, rfl⟩
          obtain ⟨done, hd⟩ : ∃ done, (ps.take k).flatten = done := ⟨_, rfl⟩
          rw [hss] at hc hst HS h2
          rw [hd] at HS hown h2
          obtain ⟨m, hm⟩ : ∃ m, ss.length = m := ⟨_, rfl⟩
          obtain ⟨dl, hdl⟩ : ∃ dl, done.length = dl := ⟨_, rfl⟩
          have HDL : Hid (done.length = dl) := hdl
          have HM : Hid (ss.length = m) := hm
          have HST : Hid (Strs wr ai ss) := hst
          rw [hm] at hc h2
          rw [hdl] at hown h2
          have h4 : dl + m ≤ 100000 := by omega
          have hszB : B ≤ wr.heap.size := by have := hbl.size; have := HB.out; omega
          clear ha hkl hss hd hm hdl hst h2 h3
          go_wp2_with (at_builtin; refine append_strs rfl _ _ rfl B _ _ _ rfl hown ai ss m ci HM.out rfl HST.out h4 hszB ?_; intro v' w3 hown' hgrow3 hat3)
          go_roundw
          case rel =>
            refine ⟨k + 1, by omega, by go_num, ?_, ?_⟩
            · exact hbl.grown hgrow3 hszB (fun j hj => (hown.lt j hj).1)
            · rw [HS.out, List.length_append, List.map_append, HDL.out, HM.out]; exact hown'
          case measure => simp [intOf]; omega
        · go_wp2
          go_ret
          rw [List.take_of_length_le (by have := HN.out; omega)] at hown
          obtain ⟨a', cap, rfl, hst, hcap⟩ := strs_of_own_cap hown
          exact ⟨a', cap, rfl, hst, hbl, hcap, own_typed hown⟩

set_option maxRecDepth 100000 in
set_option maxHeartbeats 2000000 in
theorem copyLines (a : Option Addr) (ss : List ByteArray) (ca : Nat) (w : World) (ha : Strs w a ss) (hl : ss.length ≤ 60) (hs : ∀ s ∈ ss, s.size ≤ 80) :
    Calls Tryz.prog 127 #[.slice a ss.length ca] w fun e w' => e = .returned (.slice (some ⟨w.heap.size, 0, none⟩) ss.length ss.length) ∧ Below w.heap.size w w' ∧ Strs w' (some ⟨w.heap.size, 0, none⟩) ss := by
  obtain ⟨n, hn⟩ : ∃ n, ss.length = n := ⟨_, rfl⟩
  rw [hn] at hl ⊢
  have HN : Hid (ss.length = n) := hn
  have HS : Hid (∀ s ∈ ss, s.size ≤ 80) := hs
  clear hn hs
  obtain ⟨B, hB⟩ : ∃ B, w.heap.size = B := ⟨_, rfl⟩
  have HB : Hid (w.heap.size = B) := hB
  have hmk := run_make_row' (P := Tryz.prog) 58 9 (.string ByteArray.empty) 16 Tryz.underlying58 Tryz.info9 rfl .i64 .i64 n (by omega) (by omega)
  go_enter Tryz.func127, Tryz.ntmps127
  go_wp2
  clear hmk
  go_loopw [11] (fun i w1 => ∃ k : Nat, k ≤ n ∧ i = .int .i64 k ∧ Below B w w1 ∧ B < w1.heap.size ∧ w1.heap[B]? = some (.cells (Lib.cellsOf (ss.take k) n) 9 (0, 0))) (fun i _ => n - (intOf i).toNat)
  case atStart =>
    refine ⟨0, Nat.zero_le _, rfl, (Below.refl _ _).alloc (by rw [hB]; exact Nat.le_refl _) _, by simp; omega, ?_⟩
    rw [List.take_zero, Lib.cellsOf_nil]
    subst hB
    exact heap_alloc_new w _
  case round =>
    obtain ⟨k, hk, rfl, hbl, hsz, hblk⟩ := hrel
    by_cases hlt : k < n
    · obtain ⟨b, off, rfl, hc⟩ := Strs.at ha (i := k) (by rw [HN.out]; exact hlt)
      have hc := hc k (by rw [HN.out]; exact hlt)
      have hc := cell_later (by rw [HB.out]; exact hbl) hc
      have hk' : k < ss.length := by rw [HN.out]; exact hlt
      have e : ss.getD k ByteArray.empty = ss[k] := by simp [hk']
      have hxs : (ss.getD k ByteArray.empty).size ≤ 80 := HS.out _ (by rw [e]; exact List.getElem_mem _)
      have hnext : ss.take (k + 1) = ss.take k ++ [ss.getD k ByteArray.empty] := by rw [e]; exact List.take_succ_eq_append_getElem hk'
      obtain ⟨x, hx⟩ : ∃ x, ss.getD k ByteArray.empty = x := ⟨_, rfl⟩
      rw [hx] at hc hxs hnext
      have hlen : (ss.take k).length = k := by rw [List.length_take]; omega
      obtain ⟨pre, hpre⟩ : ∃ pre, ss.take k = pre := ⟨_, rfl⟩
      rw [hpre] at hblk hlen hnext
      have HNX : Hid (ss.take (k + 1) = pre ++ [x]) := hnext
      have HLEN : Hid (pre.length = k) := hlen
      clear e hx hnext hlen hpre ha hk'
      have hcl := clone x wr (by omega)
      go_wp2_with (go_at_call 70; refine hcl.mono ?_)
      rintro e w1 ⟨rfl, hb1⟩
      clear hcl
      have hblk1 := blk_below hb1 hsz hblk
      have hs1 := hb1.size
      have hcell : w1.cell? ⟨B, k, none⟩ = some (.string ByteArray.empty) := by
        rw [Lib.cell_of_heap hblk1, ← HLEN.out]; exact Lib.cellsOf_next (by rw [HLEN.out]; exact hlt)
      have hfr : w1.frozen? ⟨B, k, none⟩ = false := Lib.frozen_of_heap hblk1 k
      go_wp2
      go_roundw
      case rel =>
        refine ⟨k + 1, by omega, by go_num, (hbl.trans (hb1.mono (by omega))).setCell (by simp) _, by simp; omega, ?_⟩
        rw [HNX.out, ← Lib.cellsOf_set (by rw [HLEN.out]; exact hlt), HLEN.out]
        exact blk_set hblk1 _
      case measure => simp [intOf]; omega
    · obtain rfl : k = n := by omega
      go_wp2
      go_ret
      refine ⟨by rw [HB.out]; rfl, by rw [HB.out]; exact hbl, ?_⟩
      intro i hi
      refine ⟨B, 0, by rw [HB.out], ?_⟩
      rw [List.take_of_length_le (by have := HN.out; omega)] at hblk
      rw [Nat.zero_add, Lib.cell_of_heap hblk]
      exact cellsOf_at ss _ i hi

end Go.Proofs.YtnkdmgekpajfhadGreatDoor
