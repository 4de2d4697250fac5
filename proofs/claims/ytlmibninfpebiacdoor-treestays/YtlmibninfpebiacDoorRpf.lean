/-
  The walk of the document's PutOf: a file put into a tree, path by path.
-/
import Derived.Test.YtlmibninfpebiacDoorCcf

namespace Go.Proofs.YtlmibninfpebiacDoor
open Go.RowKit

/-- One file more behind a row of one's own. -/
theorem append_file {w : World} {ops : Array Oper} {rest : List Oper} {o : Oper} {a : Act} {Q : Exit → Act → World → Prop} (hgd : o.guard = none) (s x : Operand)
    (ho : o.op = .call { callee := .builtin .append, args := #[s, x], argTypes := #[22, 22] }) (B : Nat) (v : Value) (n : Nat) (xs : List Value) (hs : a.eval s = v) (hown : w.ownsRow B 25 2 v n xs)
    (g : Nat) (p : ByteArray) (am : Option Addr) (q cm : Nat) (hx : a.eval x = .slice (some ⟨g, 0, none⟩) 1 1) (h0 : w.cell? ⟨g, 0, none⟩ = some (.string p)) (h1 : w.cell? ⟨g, 1, none⟩ = some (.slice am q cm)) (h63 : n + 1 ≤ 100000) (hbase : B ≤ w.heap.size)
    (h : ∀ v' w', w'.ownsRow B 25 2 v' (n + 1) (xs ++ [.string p, .slice am q cm]) → w.grownBy w' v.ownBlock → wpList Tryd.prog ops Q rest (a.put o.dst v') w') : wpList Tryd.prog ops Q (o :: rest) a w := by
  obtain ⟨i0, hi, hz0, hz1, hz2⟩ := info_parts Tryd.infoFile
  refine wpList_append_own_at w hgd s x 22 ho B 25 i0 (.agg #[.string ByteArray.empty, .slice none 0 0]) 2 40 Tryd.underlying22 hi hz0 hz1 hz2 rfl (by decide) v n xs hs hown ⟨g, 0, none⟩ 1 1 [.string p, .slice am q cm] hx rfl (fun j u hj => ?_) (fun u hu => ?_) (by unfold maxLen; omega) (by omega) hbase (fun v' w' h1 h2 _ h4 => h v' w' h1 h2)
  · match j, hj with
    | 0, hj =>
      simp at hj
      subst hj
      exact h0
    | 1, hj =>
      simp at hj
      subst hj
      exact h1
  · rcases List.mem_cons.1 hu with rfl | hu
    · rfl
    · rcases List.mem_cons.1 hu with rfl | hu
      · rfl
      · cases hu

theorem tk_snocF (l : List Fl) (k : Nat) (hk : k < l.length) : l.take (k + 1) = l.take k ++ [l.getD k fz] := by
  have e : l.getD k fz = l[k] := by simp [hk]
  rw [e, List.take_succ_eq_append_getElem hk]

/-- What has been put when k files have been passed, and whether the file is among it. -/
def Pst (l : List Fl) (f : Fl) (k : Nat) (d : Bool) (M : List Fl) : Prop :=
  (d = false ∧ M = l.take k ∧ ∀ y ∈ l.take k, bl y.1 f.1 = true) ∨ (d = true ∧ M = putM (l.take k) f ∧ ∃ y ∈ l.take k, bl y.1 f.1 = false)

theorem Pst.zero (l : List Fl) (f : Fl) : Pst l f 0 false [] := .inl ⟨rfl, by simp, by simp⟩

/-- The file that comes lies ahead. -/
theorem Pst.ahead {l : List Fl} {f : Fl} {k : Nat} {M : List Fl} (h : Pst l f k false M) (hk : k < l.length) (hb : bl (l.getD k fz).1 f.1 = true) : Pst l f (k + 1) false (M ++ [l.getD k fz]) := by
  rcases h with ⟨_, rfl, h3⟩ | ⟨h1, _⟩
  · refine .inl ⟨rfl, (tk_snocF l k hk).symm, fun y hy => ?_⟩
    rw [tk_snocF l k hk] at hy
    rcases List.mem_append.1 hy with hy | hy
    · exact h3 y hy
    · rw [List.mem_singleton] at hy; subst hy; exact hb
  · cases h1

/-- It is the first that does not. -/
theorem Pst.here {l : List Fl} {f : Fl} {k : Nat} {M : List Fl} (h : Pst l f k false M) (hk : k < l.length) (hb : bl (l.getD k fz).1 f.1 = false) :
    ((l.getD k fz).1 = f.1 → Pst l f (k + 1) true (M ++ [f])) ∧ ((l.getD k fz).1 ≠ f.1 → Pst l f (k + 1) true (M ++ [f] ++ [l.getD k fz])) := by
  rcases h with ⟨_, rfl, h3⟩ | ⟨h1, _⟩
  · have hp := put_ahead (x := l.getD k fz) h3 hb
    rw [← tk_snocF l k hk] at hp
    have hm : l.getD k fz ∈ l.take (k + 1) := by rw [tk_snocF l k hk]; simp
    refine ⟨fun e => .inr ⟨rfl, ?_, _, hm, hb⟩, fun e => .inr ⟨rfl, ?_, _, hm, hb⟩⟩
    · rw [hp, if_pos e]
    · rw [hp, if_neg e]
  · cases h1

/-- It lies behind what has been put. -/
theorem Pst.past {l : List Fl} {f : Fl} {k : Nat} {M : List Fl} (h : Pst l f k true M) (hr : Ris l) (hk : k < l.length) : bl f.1 (l.getD k fz).1 = true ∧ Pst l f (k + 1) true (M ++ [l.getD k fz]) := by
  rcases h with ⟨h1, _⟩ | ⟨_, rfl, y, hy, hb⟩
  · cases h1
  · have hbf : bl f.1 (l.getD k fz).1 = true := by
      obtain ⟨j, hj, rfl⟩ := List.getElem_of_mem hy
      rw [List.length_take] at hj
      have hjl : j < l.length := by omega
      have hp := List.pairwise_iff_getElem.1 hr j k hjl hk (by omega)
      have e : l.getD k fz = l[k] := by simp [hk]
      rw [List.getElem_take] at hb
      rw [e]
      cases e2 : bl f.1 l[j].1 with
      | true => exact bl_trans e2 hp
      | false => rw [← bl_tri hb e2]; exact hp
    refine ⟨hbf, .inr ⟨rfl, ?_, y, ?_, hb⟩⟩
    · rw [tk_snocF l k hk, put_behind hbf]
    · rw [tk_snocF l k hk]; exact List.mem_append_left _ hy

theorem Pst.done {l : List Fl} {f : Fl} {M : List Fl} (h : Pst l f l.length true M) : M = putM l f := by
  rcases h with ⟨h1, _⟩ | ⟨_, rfl, _⟩
  · cases h1
  · rw [List.take_length]
theorem Pst.last {l : List Fl} {f : Fl} {M : List Fl} (h : Pst l f l.length false M) : M ++ [f] = putM l f := by
  rcases h with ⟨_, rfl, h3⟩ | ⟨h1, _⟩
  · rw [List.take_length] at h3 ⊢
    exact (put_last h3).symm
  · cases h1

theorem Pst.len {l : List Fl} {f : Fl} {k : Nat} {d : Bool} {M : List Fl} (h : Pst l f k d M) : M.length ≤ 2 * l.length + 1 := by
  rcases h with ⟨_, rfl, _⟩ | ⟨_, rfl, _⟩
  · rw [List.length_take]; omega
  · have h1 : (lo (l.take k) f.1).length ≤ (l.take k).length := List.length_filter_le _ _
    have h2 : (hi (l.take k) f.1).length ≤ (l.take k).length := List.length_filter_le _ _
    rw [List.length_take] at h1 h2
    unfold putM
    rw [List.length_append, List.length_cons]; omega

set_option maxRecDepth 100000 in
set_option maxHeartbeats 4000000 in
theorem putRef (a : Option Addr) (l : List Fl) (ca : Nat) (p : ByteArray) (am : Option Addr) (ss : List ByteArray) (cm : Nat) (w : World) (ha : Fls w a l) (hr : Ris l) (hl : l.length ≤ 1000) (hst : Strs w am ss) (hsc : ss.length ≤ cm) :
    Calls Tryd.prog 16 #[.slice a l.length ca, .agg #[.string p, .slice am ss.length cm]] w fun e w' => ∃ g c, e = .returned (.slice g (putM l (p, ss)).length c) ∧ Fls w' g (putM l (p, ss)) ∧ Below w.heap.size w w' := by
  have hb0 := below_alloc w (.cells #[.string p, .slice am ss.length cm] 25)
  have c0 := cells2_later (Below.refl (w.alloc (.cells #[.string p, .slice am ss.length cm] 25)).heap.size (w.alloc (.cells #[.string p, .slice am ss.length cm] 25)))
  have hsz0 : (w.alloc (.cells #[.string p, .slice am ss.length cm] 25)).heap.size = w.heap.size + 1 := by simp
  obtain ⟨n, hn⟩ : ∃ n, l.length = n := ⟨_, rfl⟩
  have HN : Hid (l.length = n) := hn
  have HRI : Hid (Ris l) := hr
  have HQ : Hid (∀ w0, Below w.heap.size w w0 → Fvs w0 [.string p, .slice am ss.length cm] [(p, ss)]) := fun w0 h => Fvs.one (hst.below h) hsc
  rw [hn] at hl ⊢
  obtain ⟨q, hq⟩ : ∃ q, ss.length = q := ⟨_, rfl⟩
  rw [hq] at hb0 c0 HQ hsz0 ⊢
  obtain ⟨f, hf⟩ : ∃ f : Fl, (p, ss) = f := ⟨_, rfl⟩
  have HF1 : Hid (f.1 = p) := by rw [← hf]; rfl
  rw [hf] at HQ ⊢
  obtain ⟨W0, hW0⟩ : ∃ W0, w.alloc (.cells #[.string p, .slice am q cm] 25) = W0 := ⟨_, rfl⟩
  have HW0 : Hid (w.alloc (.cells #[.string p, .slice am q cm] 25) = W0) := hW0
  rw [hW0] at hb0 c0 hsz0
  have HB0 : Hid (Below w.heap.size w W0) := hb0
  have HC0 : Hid (W0.cell? ⟨w.heap.size, 0, none⟩ = some (.string p) ∧ W0.cell? ⟨w.heap.size, 1, none⟩ = some (.slice am q cm)) := c0
  have HV0 : Hid (Fvs W0 [.string p, .slice am q cm] [f]) := HQ.out W0 hb0
  have HA : Hid (Fls W0 a l) := ha.below hb0
  have HS0 : Hid (W0.heap.size = w.heap.size + 1) := hsz0
  clear ha hr hst hsc hn hq hf hb0 c0 hW0 HQ hsz0
  obtain ⟨B, hB⟩ : ∃ B, W0.heap.size = B := ⟨_, rfl⟩
  have HB : Hid (W0.heap.size = B) := hB
  clear hB
  go_enter Tryd.func16, Tryd.ntmps16
  go_wp2
  go_loopw [5, 6, 7] (fun v d i w1 => ∃ k : Nat, k ≤ n ∧ i = .int .i64 k ∧ Below B W0 w1 ∧ ∃ (dn : Bool) (M : List Fl) (xs : List Value), d = .bool dn ∧ Pst l f k dn M ∧ w1.ownsRow B 25 2 v M.length xs ∧ Fvs W0 xs M) (fun _ _ i _ => n - (intOf i).toNat)
  case atStart => exact ⟨0, Nat.zero_le _, rfl, by rw [HW0.out]; exact Below.refl _ _, false, [], [], rfl, Pst.zero l f, World.ownsRow_nil _ _ _ _, Fvs.nil _⟩
  case round =>
    obtain ⟨k, hk, rfl, hbl, dn, M, xs, rfl, hps, hown, hvs⟩ := hrel
    have hszB : B ≤ wr.heap.size := by have := hbl.size; have := HB.out; omega
    have hb' : Below W0.heap.size W0 wr := by rw [HB.out]; exact hbl
    have hml := hps.len
    rw [HN.out] at hml
    have HCB : Hid (∀ w1, Below B W0 w1 → w1.cell? ⟨w.heap.size, 0, none⟩ = some (.string p) ∧ w1.cell? ⟨w.heap.size, 1, none⟩ = some (.slice am q cm)) := fun w1 h => by
      have h : Below W0.heap.size W0 w1 := by rw [HB.out]; exact h
      exact ⟨cell_later h HC0.out.1, cell_later h HC0.out.2⟩
    by_cases hlt : k < n
    · have ha := HA.out
      have hkl : k < l.length := by rw [HN.out]; exact hlt
      obtain ⟨b, off, rfl⟩ := ha.addr hkl
      obtain ⟨am2, cm2, hc1, hc2, hst2, hcp2⟩ := ha.at hkl
      have P1 : Hid (dn = false → bl (l.getD k fz).1 f.1 = true → Pst l f (k + 1) false (M ++ [l.getD k fz])) := fun e hb => by subst e; exact hps.ahead hkl hb
      have P2 : Hid (dn = false → bl (l.getD k fz).1 f.1 = false → ((l.getD k fz).1 = f.1 → Pst l f (k + 1) true (M ++ [f])) ∧ ((l.getD k fz).1 ≠ f.1 → Pst l f (k + 1) true (M ++ [f] ++ [l.getD k fz]))) := fun e hb => by subst e; exact hps.here hkl hb
      have P3 : Hid (dn = true → bl f.1 (l.getD k fz).1 = true ∧ Pst l f (k + 1) true (M ++ [l.getD k fz])) := fun e => by subst e; exact hps.past HRI.out hkl
      have hvx := Fvs.one (p := (l.getD k fz).1) hst2 hcp2
      rw [show ((l.getD k fz).1, (l.getD k fz).2) = l.getD k fz from rfl] at hvx
      obtain ⟨px, hpx⟩ : ∃ px, (l.getD k fz).1 = px := ⟨_, rfl⟩
      obtain ⟨q2, hq2⟩ : ∃ q2, (l.getD k fz).2.length = q2 := ⟨_, rfl⟩
      rw [hpx] at hc1 hvx P1 P2 P3
      rw [hq2] at hc2 hvx
      rw [HF1.out] at P1 P2 P3
      obtain ⟨X, hX⟩ : ∃ X, l.getD k fz = X := ⟨_, rfl⟩
      rw [hX] at P1 P2 P3 hvx
      have HVX : Hid (Fvs W0 [.string px, .slice am2 q2 cm2] [X]) := hvx
      have HCX : Hid (∀ w1, Below B W0 w1 → w1.cell? ⟨b, off + k * 2, none⟩ = some (.string px) ∧ w1.cell? ⟨b, off + k * 2 + 1, none⟩ = some (.slice am2 q2 cm2)) := fun w1 h => by
        have h : Below W0.heap.size W0 w1 := by rw [HB.out]; exact h
        exact ⟨cell_later h hc1, cell_later h hc2⟩
      have HVS : Hid (Fvs W0 xs M) := hvs
      have HBS : Hid (∀ w1, Below B W0 w1 → B ≤ w1.heap.size) := fun w1 h => by have := h.size; have := HB.out; omega
      obtain ⟨m, hm⟩ : ∃ m, M.length = m := ⟨_, rfl⟩
      have HM : Hid (M.length = m) := hm
      rw [hm] at hown hml
      clear ha hkl hst2 hcp2 hpx hq2 hX hvx hc1 hc2 hvs hm hps hb'
      have hbq := ba_beq px p
      have hle := bl_le p px
      obtain ⟨f0, f1⟩ := HCB.out _ hbl
      obtain ⟨g0, g1⟩ := HCX.out _ hbl
      cases dn
      · by_cases hbx : bl px p = true
        · have HP : Hid (Pst l f (k + 1) false (M ++ [X])) := P1.out rfl hbx
          rw [decide_eq_false (bl_ne hbx)] at hbq
          rw [hbx] at hle
          obtain ⟨l1, l2⟩ : Op.bytesLess p.toList px.toList = false ∧ (p.toList == px.toList) = false := by simpa using hle
          clear P1 P2 P3 hbx hle
          go_wp2
          go_quiet (fail)
          go_wp2
          go_quiet (fail)
          go_wp2_with (at_builtin; refine append_file rfl _ _ rfl B _ m xs rfl (own_lies hown (by exact (below_drawn (Below.refl _ _)).alloc (by simp) _)) _ px am2 q2 cm2 rfl (by exact (cells2_later (Below.refl _ _)).1) (by exact (cells2_later (Below.refl _ _)).2) (by omega) (by simp; omega) ?_; intro v3 w3 hown3 hg; have hbl3 := ((below_drawn hbl).alloc hszB _).grown hg (by simp; omega) (fun j hj => (hown.lt j hj).1); clear hg)
          go_roundw
          case rel => exact ⟨k + 1, by omega, by go_num, hbl3, false, M ++ [X], xs ++ [.string px, .slice am2 q2 cm2], rfl, HP.out, by rw [List.length_append, HM.out]; exact hown3, HVS.out.append HVX.out⟩
          case measure => simp [intOf]; omega
        · have hbx : bl px p = false := by simpa using hbx
          obtain ⟨pe, pn⟩ := P2.out rfl hbx
          by_cases he : px = p
          · have HP : Hid (Pst l f (k + 1) true (M ++ [f])) := pe he
            rw [decide_eq_true he] at hbq
            have l1 : Op.bytesLess p.toList px.toList = false := by rw [he]; exact bl_irrefl p
            have l2 : (p.toList == px.toList) = true := by rw [he]; simp
            clear P1 P2 P3 hbx hle pe pn he
            go_wp2
            go_quiet (fail)
            go_wp2_with (at_builtin; refine append_file rfl _ _ rfl B _ m xs rfl (own_lies hown (by exact (below_drawn (Below.refl _ _)).alloc (by simp) _)) _ p am q cm rfl (by exact (cells2_later (Below.refl _ _)).1) (by exact (cells2_later (Below.refl _ _)).2) (by omega) (by simp; omega) ?_; intro v3 w3 hown3 hg; have hbl3 := ((below_drawn hbl).alloc hszB _).grown hg (by simp; omega) (fun j hj => (hown.lt j hj).1); clear hg; have hsz3 := HBS.out _ hbl3; obtain ⟨f2, f3⟩ := HCB.out _ hbl3; obtain ⟨g2, g3⟩ := HCX.out _ hbl3)
            go_quiet (fail)
            go_wp2
            go_roundw
            case rel => exact ⟨k + 1, by omega, by go_num, below_drawn hbl3, true, M ++ [f], xs ++ [.string p, .slice am q cm], rfl, HP.out, by rw [List.length_append, HM.out]; exact own_lies hown3 (below_drawn (Below.refl _ _)), HVS.out.append HV0.out⟩
            case measure => simp [intOf]; omega
          · have HP : Hid (Pst l f (k + 1) true (M ++ [f] ++ [X])) := pn he
            rw [decide_eq_false he] at hbq
            have l1 : Op.bytesLess p.toList px.toList = true := by
              cases e : bl p px with
              | true => exact e
              | false => exact absurd (bl_tri hbx e) he
            clear P1 P2 P3 hbx hle pe pn he
            go_wp2
            go_quiet (fail)
            go_wp2_with (at_builtin; refine append_file rfl _ _ rfl B _ m xs rfl (own_lies hown (by exact (below_drawn (Below.refl _ _)).alloc (by simp) _)) _ p am q cm rfl (by exact (cells2_later (Below.refl _ _)).1) (by exact (cells2_later (Below.refl _ _)).2) (by omega) (by simp; omega) ?_; intro v3 w3 hown3 hg; have hbl3 := ((below_drawn hbl).alloc hszB _).grown hg (by simp; omega) (fun j hj => (hown.lt j hj).1); clear hg; have hsz3 := HBS.out _ hbl3; obtain ⟨f2, f3⟩ := HCB.out _ hbl3; obtain ⟨g2, g3⟩ := HCX.out _ hbl3)
            go_quiet (fail)
            go_wp2_with (at_builtin; refine append_file rfl _ _ rfl B _ (m + 1) (xs ++ [.string p, .slice am q cm]) rfl (own_lies hown3 (by exact (below_drawn (Below.refl _ _)).alloc (by simp) _)) _ px am2 q2 cm2 rfl (by exact (cells2_later (Below.refl _ _)).1) (by exact (cells2_later (Below.refl _ _)).2) (by omega) (by simp; omega) ?_; intro v4 w4 hown4 hg; have hbl4 := ((below_drawn hbl3).alloc hsz3 _).grown hg (by simp; omega) (fun j hj => (hown3.lt j hj).1); clear hg)
            go_roundw
            case rel => exact ⟨k + 1, by omega, by go_num, hbl4, true, M ++ [f] ++ [X], xs ++ [.string p, .slice am q cm] ++ [.string px, .slice am2 q2 cm2], rfl, HP.out, by rw [List.length_append, List.length_append, HM.out]; exact hown4, (HVS.out.append HV0.out).append HVX.out⟩
            case measure => simp [intOf]; omega
      · obtain ⟨hbx, hp⟩ := P3.out rfl
        have HP : Hid (Pst l f (k + 1) true (M ++ [X])) := hp
        rw [decide_eq_false (fun e => bl_ne hbx e.symm)] at hbq
        clear P1 P2 P3 hbx hle hp
        go_wp2
        go_quiet (fail)
        go_wp2
        go_quiet (fail)
        go_wp2_with (at_builtin; refine append_file rfl _ _ rfl B _ m xs rfl (own_lies hown (by exact (below_drawn (Below.refl _ _)).alloc (by simp) _)) _ px am2 q2 cm2 rfl (by exact (cells2_later (Below.refl _ _)).1) (by exact (cells2_later (Below.refl _ _)).2) (by omega) (by simp; omega) ?_; intro v3 w3 hown3 hg; have hbl3 := ((below_drawn hbl).alloc hszB _).grown hg (by simp; omega) (fun j hj => (hown.lt j hj).1); clear hg)
        go_roundw
        case rel => exact ⟨k + 1, by omega, by go_num, hbl3, true, M ++ [X], xs ++ [.string px, .slice am2 q2 cm2], rfl, HP.out, by rw [List.length_append, HM.out]; exact hown3, HVS.out.append HVX.out⟩
        case measure => simp [intOf]; omega
    · obtain rfl : k = n := by omega
      obtain ⟨f0, f1⟩ := HCB.out _ hbl
      have HPS : Hid (Pst l f k dn M) := hps
      have HVS : Hid (Fvs W0 xs M) := hvs
      obtain ⟨m, hm⟩ : ∃ m, M.length = m := ⟨_, rfl⟩
      have HM : Hid (M.length = m) := hm
      rw [hm] at hown hml
      clear hvs hm hps hb'
      have HEND : Hid (∀ w3 v3 T ys, Below B W0 w3 → w3.ownsRow B 25 2 v3 T.length ys → Fvs W0 ys T → T = putM l f → ∃ g c, v3 = .slice g (putM l f).length c ∧ Fls w3 g (putM l f) ∧ Below w.heap.size w w3) := fun w3 v3 T ys hb ho hv e => by
        subst e
        have hb1 : Below W0.heap.size W0 w3 := by rw [HB.out]; exact hb
        obtain ⟨g, c, e2, hf, _⟩ := fls_of_own ho (hv.below hb1)
        exact ⟨g, c, e2, hf, HB0.out.trans (hb1.mono HB0.out.size)⟩
      cases dn
      · go_wp2_with (at_builtin; refine append_file rfl _ _ rfl B _ m xs rfl (own_lies hown (by exact (Below.refl _ _).alloc (by simp) _)) _ p am q cm rfl (by exact (cells2_later (Below.refl _ _)).1) (by exact (cells2_later (Below.refl _ _)).2) (by omega) (by simp; omega) ?_; intro v3 w3 hown3 hg; have hbl3 := (hbl.alloc hszB _).grown hg (by simp; omega) (fun j hj => (hown.lt j hj).1); clear hg)
        obtain ⟨g, c, rfl, hf, hb⟩ := HEND.out w3 v3 (M ++ [f]) (xs ++ [.string p, .slice am q cm]) hbl3 (by rw [List.length_append, HM.out]; exact hown3) (HVS.out.append HV0.out) (by have h := HPS.out; rw [← HN.out] at h; exact h.last)
        go_ret
        exact ⟨g, c, rfl, hf, hb⟩
      · obtain ⟨g, c, rfl, hf, hb⟩ := HEND.out wr _ M xs hbl (by rw [HM.out]; exact hown) HVS.out (by have h := HPS.out; rw [← HN.out] at h; exact h.done)
        go_wp2
        go_ret
        exact ⟨g, c, rfl, hf, hb⟩

end Go.Proofs.YtlmibninfpebiacDoor
