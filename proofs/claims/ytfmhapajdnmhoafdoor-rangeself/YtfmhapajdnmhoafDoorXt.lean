/-
  Two pairs of numbers compared. Walk of the law RangeSelf: of itself each is itself; each place is told once.
-/
import Derived.Test.YtfmhapajdnmhoafDoorXq
import Derived.Laws.StructEq
import Derived.Test.YtfmhapajdnmhoafDoorXr
import Derived.Test.YtfmhapajdnmhoafDoorRkf
import Derived.Test.YtfmhapajdnmhoafDoorXk
import Derived.Test.YtfmhapajdnmhoafDoorXf
namespace Go.Proofs.YtfmhapajdnmhoafDoor
open Go.RowKit Dist

theorem eq_pair_in (e : Nat) (a b c d : Int) (w : World) : (Op.equalIn (e + 1 + 1) 32 (.agg #[.int .i64 a, .int .i64 b]) (.agg #[.int .i64 c, .int .i64 d])).run Tryd.prog w = .ok (a == c && b == d) w := by
  have h := fun (x y : Int) (w : World) => run_equalIn_int (P := Tryd.prog) w e 3 .i64 .i64 x y Tryd.underlying3
  have p0 : ∀ (x y : Int) (w : World), (part 3 #[.int .i64 x, .int .i64 y] 0).run Tryd.prog w = .ok (.int .i64 x) w := fun x y w => by kernel_rfl
  have p1 : ∀ (x y : Int) (w : World), (part 3 #[.int .i64 x, .int .i64 y] 1).run Tryd.prog w = .ok (.int .i64 y) w := fun x y w => by kernel_rfl
  rw [Op.equalIn]
  simp only [Sem.run_bind, run_underlying Tryd.underlying32, Result.andThen_ok]
  have hr : List.range' 0 2 = [0, 1] := rfl
  simp [hr, p0, p1, h]
  by_cases h1 : a = c
  · by_cases h2 : b = d <;> simp [h1, h2]
  · simp [h1]
theorem eq_pair (a b c d : Int) (w : World) : (Op.equalIn 10000 32 (.agg #[.int .i64 a, .int .i64 b]) (.agg #[.int .i64 c, .int .i64 d])).run Tryd.prog w = .ok (a == c && b == d) w := eq_pair_in 9998 a b c d w
theorem eq_pair_same (a b : Int) (w : World) : (Op.equalIn 10000 32 (.agg #[.int .i64 a, .int .i64 b]) (.agg #[.int .i64 a, .int .i64 b])).run Tryd.prog w = .ok true w := by
  rw [eq_pair]; simp

end Go.Proofs.YtfmhapajdnmhoafDoor
namespace Go.Proofs.YtfmhapajdnmhoafDoor
open Go.RowKit Dist

theorem Pai.at1 {w : World} {a : Option Addr} {ps : List (Int × Int)} (h : Pai w a ps) {i : Nat} (hi : i < ps.length) :
    ∃ b off, a = some ⟨b, off, none⟩ ∧ ∀ j : Nat, j < ps.length → w.cell? ⟨b, off + j * 2, none⟩ = some (.int .i64 (ps.getD j (0, 0)).1) ∧ w.cell? ⟨b, off + j * 2 + 1, none⟩ = some (.int .i64 (ps.getD j (0, 0)).2) := by
  obtain ⟨b, off, rfl, _⟩ := h i hi
  refine ⟨b, off, rfl, fun j hj => ?_⟩
  obtain ⟨b', off', e, hc⟩ := h j hj
  simp at e
  obtain ⟨rfl, rfl⟩ := e
  exact hc

/-- The series of the law's first words. -/
def one1 : List (List Ch) := [[(2, ⟨#[97]⟩, [])]]
theorem one1_ok : rfF one1 one1 = 0 := by decide
theorem one1_is : rgP one1 one1 = [(0, 0)] := by rw [rgP_self one1_ok]; rfl
theorem one1_okl : Okl one1 := by
  refine ⟨by decide, fun l hl => ?_⟩
  obtain rfl := List.mem_singleton.1 hl
  refine ⟨by decide, fun c hc => ?_, fun c hc h hh => ?_, fun c hc h hh => ?_⟩
  · obtain rfl := List.mem_singleton.1 hc
    exact Nat.zero_le _
  · obtain rfl := List.mem_singleton.1 hc
    cases hh
  · obtain rfl := List.mem_singleton.1 hc
    cases hh
theorem one1_lies (w : World) : Srs ((w.alloc (.cells #[.int .i64 2, .string ⟨#[97]⟩, .slice none 0 0] 25)).alloc (.cells #[.slice (some ⟨w.heap.size, 0, none⟩) 1 1] 26)) (some ⟨w.heap.size + 1, 0, none⟩) one1 ∧
    Below w.heap.size w ((w.alloc (.cells #[.int .i64 2, .string ⟨#[97]⟩, .slice none 0 0] 25)).alloc (.cells #[.slice (some ⟨w.heap.size, 0, none⟩) 1 1] 26)) := by
  have a1 := heap_alloc_new w (.cells #[.int .i64 2, .string ⟨#[97]⟩, .slice none 0 0] 25)
  have b1 := below_alloc w (.cells #[.int .i64 2, .string ⟨#[97]⟩, .slice none 0 0] 25)
  have s1 : (w.alloc (.cells #[.int .i64 2, .string ⟨#[97]⟩, .slice none 0 0] 25)).heap.size = w.heap.size + 1 := by simp
  generalize w.alloc (.cells #[.int .i64 2, .string ⟨#[97]⟩, .slice none 0 0] 25) = w1 at a1 b1 s1 ⊢
  have a2 := heap_alloc_new w1 (.cells #[.slice (some ⟨w.heap.size, 0, none⟩) 1 1] 26)
  have b2 := below_alloc w1 (.cells #[.slice (some ⟨w.heap.size, 0, none⟩) 1 1] 26)
  generalize w1.alloc (.cells #[.slice (some ⟨w.heap.size, 0, none⟩) 1 1] 26) = w2 at a2 b2 ⊢
  rw [s1] at a2
  have a3 : w2.heap[w.heap.size]? = some (.cells #[.int .i64 2, .string ⟨#[97]⟩, .slice none 0 0] 25 (0, 0)) := blk_below b2 (by omega) a1
  refine ⟨fun i hi => ?_, b1.trans (b2.mono (by omega))⟩
  match i, hi with
  | 0, _ =>
    refine ⟨w.heap.size + 1, 0, some ⟨w.heap.size, 0, none⟩, 1, rfl, by rw [Lib.cell_of_heap a2]; rfl, fun j hj => ?_⟩
    match j, hj with
    | 0, _ => exact ⟨w.heap.size, 0, none, 0, rfl, by rw [Lib.cell_of_heap a3]; rfl, by rw [Lib.cell_of_heap a3]; rfl, by rw [Lib.cell_of_heap a3]; rfl, Hks.nil _ _, Nat.le_refl _⟩

theorem srF_some {p : List (List Ch)} (h : ¬ ∃ j, j < p.length ∧ (kf (p.getD j [])).2 ≠ 0) : srF p = 0 := srF_all fun j hj => Decidable.byContradiction fun hn => h ⟨j, hj, hn⟩

/-- Has a fault been met among the first k? -/
def WrG (p : List (List Ch)) (np k : Nat) (bv : Bool) : Prop := bv = true ↔ 4 < np ∨ ∃ j, j < k ∧ (kf (p.getD j [])).2 ≠ 0
theorem WrG.zero (p : List (List Ch)) (np : Nat) : WrG p np 0 (decide (4 < (np : Int))) := by
  unfold WrG
  rw [decide_eq_true_eq]
  constructor
  · intro h; exact .inl (by omega)
  · rintro (h | ⟨j, hj, _⟩)
    · omega
    · exact absurd hj (Nat.not_lt_zero _)
theorem WrG.yes {p : List (List Ch)} {np k : Nat} (h : WrG p np k true) : WrG p np (k + 1) true :=
  ⟨fun _ => (h.1 rfl).imp id fun ⟨j, hj, hn⟩ => ⟨j, by omega, hn⟩, fun _ => rfl⟩
theorem WrG.no {p : List (List Ch)} {np k : Nat} (h : WrG p np k false) (h0 : (kf (p.getD k [])).2 = 0) : WrG p np (k + 1) false := by
  refine ⟨fun h => (nomatch h), fun hh => h.2 (hh.imp id ?_)⟩
  rintro ⟨j, hj, hn⟩
  by_cases e : j = k
  · subst e; exact absurd h0 hn
  · exact ⟨j, by omega, hn⟩
theorem WrG.new {p : List (List Ch)} {np k : Nat} (h0 : (kf (p.getD k [])).2 ≠ 0) : WrG p np (k + 1) true := ⟨fun _ => .inr ⟨k, by omega, h0⟩, fun _ => rfl⟩
theorem WrG.end {p : List (List Ch)} {bv : Bool} (h : WrG p p.length p.length bv) (hf : rfF p p ≠ 0) : bv = true :=
  h.2 (Decidable.byContradiction fun hn => hf (rfF_self.2 ⟨Nat.le_of_not_lt fun h => hn (.inl h), srF_some fun hh => hn (.inr hh)⟩))

section
variable (a b : Option Addr) (p q : List (List Ch)) (ca cb : Nat) (w : World)

set_option maxHeartbeats 40000000 in
set_option maxRecDepth 100000 in
theorem rangeSelf_any (ha : Srs w a p) (hb : Srs w b q) (hop : Okl p) (hoq : Okl q) :
    Calls Tryd.prog 3 #[.slice a p.length ca, .slice b q.length cb] w fun e w' => e = .returned (.bool true) ∧ Below w.heap.size w w' := by
  have hlp := hop.1
  have hlq := hoq.1
  unfold maxLen at hlp hlq
  have hol := one1_lies w
  have hone : Calls Tryd.prog 4 #[.slice (some ⟨w.heap.size + 1, 0, none⟩) 1 1, .slice (some ⟨w.heap.size + 1, 0, none⟩) 1 1] ((w.alloc (.cells #[.int .i64 2, .string ⟨#[97]⟩, .slice none 0 0] 25)).alloc (.cells #[.slice (some ⟨w.heap.size, 0, none⟩) 1 1] 26)) fun e w' => ∃ b o c, e = .returned (.tuple #[.slice (some ⟨b, o, none⟩) 1 c, .nilIface]) ∧ w'.cell? ⟨b, o, none⟩ = some (.int .i64 0) ∧ w'.cell? ⟨b, o + 1, none⟩ = some (.int .i64 0) ∧ Below w.heap.size w w' := (range_any _ _ one1 one1 1 1 _ hol.1 hol.1 one1_okl one1_okl).mono fun e w' ⟨g, c, he, h1, h2⟩ => by
    rw [one1_is, one1_ok] at he
    rw [one1_is] at h1
    obtain ⟨b, o, rfl, hat⟩ := Pai.at1 h1 (i := 0) (by decide)
    obtain ⟨x1, x2⟩ := hat 0 (by decide)
    exact ⟨b, o, c, he, by simpa using x1, by simpa using x2, hol.2.trans (h2.mono hol.2.size)⟩
  have hpp : ∀ w1, Below w.heap.size w w1 → Calls Tryd.prog 4 #[.slice a p.length ca, .slice a p.length ca] w1 fun e w' => ∃ g c, e = .returned (.tuple #[.slice g (rgP p p).length c, errV (rfF p p)]) ∧ Pai w' g (rgP p p) ∧ Below w.heap.size w w' := fun w1 h => (range_any a a p p ca ca w1 (ha.below h) (ha.below h) hop hop).mono fun e w' ⟨g, c, he, h1, h2⟩ => ⟨g, c, he, h1, h.trans (h2.mono h.size)⟩
  have hpq : ∀ w1, Below w.heap.size w w1 → Calls Tryd.prog 4 #[.slice a p.length ca, .slice b q.length cb] w1 fun e w' => ∃ g c, e = .returned (.tuple #[.slice g (rgP p q).length c, errV (rfF p q)]) ∧ Pai w' g (rgP p q) ∧ Below w.heap.size w w' := fun w1 h => (range_any a b p q ca cb w1 (ha.below h) (hb.below h) hop hoq).mono fun e w' ⟨g, c, he, h1, h2⟩ => ⟨g, c, he, h1, h.trans (h2.mono h.size)⟩
  have hpe0 := eq_pair_same 0 0
  have HA : Hid (Srs w a p) := ha
  have HO : Hid (Okl p) := hop
  have HPQ : Hid (∀ w1, Below w.heap.size w w1 → Calls Tryd.prog 4 #[.slice a p.length ca, .slice b q.length cb] w1 fun e w' => ∃ g c, e = .returned (.tuple #[.slice g (rgP p q).length c, errV (rfF p q)]) ∧ Pai w' g (rgP p q) ∧ Below w.heap.size w w') := hpq
  obtain ⟨np, hnp⟩ : ∃ np, p.length = np := ⟨_, rfl⟩
  obtain ⟨mq, hmq⟩ : ∃ mq, q.length = mq := ⟨_, rfl⟩
  have HN : Hid (p.length = np) := hnp
  have HM : Hid (q.length = mq) := hmq
  rw [hnp] at hlp hpp ⊢
  rw [hmq] at hlq ⊢
  clear hnp hmq ha hb hop hoq hol hpq
  go_enter Tryd.func3, Tryd.ntmps3
  go_upto_region 3 with (first
    | (go_at_call 4; refine hone.mono ?_; rintro e w1 ⟨b1, o1, c1, rfl, x1, x2, hb1⟩)
    | go_in)
  go_upto_region 5 with fail
  clear hpe0 x1 x2 hone
  have HB1 : Hid (Below w.heap.size w w1) := hb1
  by_cases h0 : rfF p p = 0
  case' neg =>
    have hfs : Hid (rfF p p ≠ 0) := h0
    have hp2 := hpp w1 hb1
    rw [errV_not h0] at hp2
    obtain ⟨f, hf⟩ : ∃ f, rfF p p = f := ⟨_, rfl⟩
    rw [hf] at hp2
    clear hpp hf h0 hb1
    go_upto_region 6 with (first
      | (go_at_call 4; refine hp2.mono ?_; rintro e w2 ⟨g2, c2, rfl, _, hb2⟩)
      | go_in)
    obtain ⟨bv0, hbv0⟩ : ∃ bv0, decide (4 < (np : Int)) = bv0 := ⟨_, rfl⟩
    have HB0 : Hid (WrG p np 0 bv0) := by show WrG _ _ _ _; rw [← hbv0]; exact WrG.zero p np
    clear hp2
    go_upto_region 8 with fail
    clear hbv0
    go_wp2
    go_loopw [10, 11] (fun s10 i wx => ∃ (k : Nat) (bv : Bool), k ≤ np ∧ i = .int .i64 k ∧ s10 = .bool bv ∧ WrG p np k bv ∧ Below w.heap.size w wx) (fun _ i _ => np - (intOf i).toNat)
    case atStart => exact ⟨0, bv0, Nat.zero_le _, rfl, rfl, HB0.out, hb2⟩
    case' round =>
      clear hb2 HB0
      obtain ⟨k, bv, hk, rfl, rfl, hiff, hbl⟩ := hrel
      have HI : Hid (WrG p np k bv) := hiff
      clear hiff
      by_cases hlt : k < np
      case pos =>
        have hkl : k < p.length := by rw [HN.out]; exact hlt
        have hsr : Srs wr a p := HA.out.below hbl
        obtain ⟨b3, o3, rfl⟩ := hsr.addr hkl
        obtain ⟨ac, cc, hc, hch⟩ := hsr.at hkl
        obtain ⟨q1, q2, q3, q4⟩ := HO.out.at hkl
        have hpf := patchFault ac (p.getD k []) cc wr hch q1 q2 q3 q4
        have hnx : (kf (p.getD k [])).2 = (kf (p.getD k [])).2 := rfl
        obtain ⟨l, hl⟩ : ∃ l, p.getD k [] = l := ⟨_, rfl⟩
        have HL : Hid (p.getD k [] = l) := hl
        rw [hl] at hc hpf
        obtain ⟨m, hm⟩ : ∃ m, l.length = m := ⟨_, rfl⟩
        rw [hm] at hc hpf
        obtain ⟨f2, hf2⟩ : ∃ f2, (kf l).2 = f2 := ⟨_, rfl⟩
        have HF2 : Hid ((kf (p.getD k [])).2 = f2) := by show _ = _; rw [HL.out]; exact hf2
        rw [hf2] at hpf
        clear hl hm hf2 hsr hch q1 q2 q3 q4 hnx
        by_cases hbv : bv = true
        · subst hbv
          have HT : Hid (WrG p np (k + 1) true) := HI.out.yes
          clear HI
          go_wp2_with (go_at_call 5; refine hpf.mono ?_; rintro e w3 ⟨rfl, hb3⟩)
          go_roundw
          case rel => exact ⟨k + 1, true, by omega, by go_num, rfl, HT.out, hbl.trans (hb3.mono hbl.size)⟩
          case measure => simp [intOf]; omega
        · have hbv : bv = false := by simpa using hbv
          subst hbv
          by_cases hf0 : f2 = 0
          · subst hf0
            have HT : Hid (WrG p np (k + 1) false) := HI.out.no HF2.out
            clear HI HF2
            go_wp2_with (go_at_call 5; refine hpf.mono ?_; rintro e w3 ⟨rfl, hb3⟩)
            go_roundw
            case rel => exact ⟨k + 1, false, by omega, by go_num, rfl, HT.out, hbl.trans (hb3.mono hbl.size)⟩
            case measure => simp [intOf]; omega
          · have hne : (f2 != 0) = true := by simpa using hf0
            have HT : Hid (WrG p np (k + 1) true) := WrG.new (by rw [HF2.out]; exact hf0)
            clear HI HF2 hf0
            go_wp2_with (go_at_call 5; refine hpf.mono ?_; rintro e w3 ⟨rfl, hb3⟩)
            go_roundw
            case rel => exact ⟨k + 1, true, by omega, by go_num, by first | rfl | rw [hne], HT.out, hbl.trans (hb3.mono hbl.size)⟩
            case measure => simp [intOf]; omega
      case' neg =>
        have hkn : k = np := by omega
        have hbt : bv = true := by
          have h := HI.out
          rw [hkn, ← HN.out] at h
          exact h.end hfs.out
        subst hbt
        clear hkn HI
        go_upto_region 23 with fail
  case' pos =>
    have hp2 := hpp w1 hb1
    rw [h0, errV_zero, rgP_self h0, List.length_map, List.length_range, HN.out] at hp2
    clear hpp h0 hb1
    go_upto_region 6 with (first
      | (go_at_call 4; refine hp2.mono ?_; rintro e w2 ⟨g2, c2, rfl, hpa, hb2⟩)
      | go_in)
    have HPA : Hid (Pai w2 g2 ((List.range np).map fun (i : Nat) => ((i : Int), (i : Int)))) := hpa
    clear hpa hp2
    go_wp2
    go_loopw [14] (fun i wx => ∃ k : Nat, k ≤ np ∧ i = .int .i64 k ∧ wx = w2) (fun i _ => np - (intOf i).toNat)
    case atStart => exact ⟨0, Nat.zero_le _, rfl, rfl⟩
    case' round =>
      obtain ⟨k, hk, rfl, rfl⟩ := hrel
      by_cases hlt : k < np
      case pos =>
        obtain ⟨b3, o3, rfl, hat⟩ := Pai.at1 HPA.out (i := k) (by simpa using hlt)
        obtain ⟨x1, x2⟩ := hat k (by simpa using hlt)
        have e : ((List.range np).map fun (i : Nat) => ((i : Int), (i : Int))).getD k (0, 0) = ((k : Int), (k : Int)) := by simp [hlt]
        rw [e] at x1 x2
        simp only [] at x1 x2
        have hpe := eq_pair_same (k : Int) (k : Int)
        clear hat e
        go_wp2
        go_roundw
        case rel => exact ⟨k + 1, by omega, by go_num, trivial⟩
        case measure => simp [intOf]; omega
      case' neg =>
        have hkn : np ≤ k := by omega
        go_upto_region 23 with fail
  all_goals
    clear HA HO
    by_cases hq0 : rfF p q = 0
    case neg =>
      have hq2 : ∀ w1, Below w.heap.size w w1 → Calls Tryd.prog 4 #[.slice a np ca, .slice b mq cb] w1 fun e w' => ∃ g c, e = .returned (.tuple #[.slice g (rgP p q).length c, .iface 33 (.int .i64 (rfF p q))]) ∧ Below w.heap.size w w' := fun w1 h => by
        have := HPQ.out w1 h
        rw [errV_not hq0, HN.out, HM.out] at this
        exact this.mono fun e w' ⟨g, c, he, _, h2⟩ => ⟨g, c, he, h2⟩
      obtain ⟨f, hf⟩ : ∃ f, rfF p q = f := ⟨_, rfl⟩
      rw [hf] at hq2
      clear HPQ hq0 hf
      go_wp2_with (go_at_call 4; refine (hq2 _ (by assumption)).mono ?_; rintro e w5 ⟨g5, c5, rfl, hb5⟩)
      go_ret
      exact ⟨by first | rfl | trivial, hb5⟩
    case pos =>
    have hq2 : ∀ w1, Below w.heap.size w w1 → Calls Tryd.prog 4 #[.slice a np ca, .slice b mq cb] w1 fun e w' => ∃ g c, e = .returned (.tuple #[.slice g (rgP p q).length c, .nilIface]) ∧ Pai w' g (rgP p q) ∧ Below w.heap.size w w' := fun w1 h => by
      have := HPQ.out w1 h
      rw [hq0, HN.out, HM.out] at this
      exact this
    obtain ⟨t1, t2, t3, t4, t5, t6⟩ := rgP_told hq0
    obtain ⟨R, hR⟩ : ∃ R, rgP p q = R := ⟨_, rfl⟩
    rw [hR] at hq2 t1 t2 t3 t4 t5 t6
    obtain ⟨L, hL⟩ : ∃ L, R.length = L := ⟨_, rfl⟩
    have HL : Hid (R.length = L) := hL
    rw [hL] at hq2 t5
    rw [HN.out] at t3 t6
    rw [HM.out] at t4 t6
    clear HPQ hq0 hR hL
    go_upto_region 27 with (first
      | (go_at_call 4; refine (hq2 _ (by assumption)).mono ?_; rintro e w5 ⟨g5, c5, rfl, hp5, hb5⟩)
      | go_in)
    have HP5 : Hid (Pai w5 g5 R) := hp5
    have HB5 : Hid (Below w.heap.size w w5) := hb5
    clear hp5 hq2 hb5
    go_wp2
    go_loopw [15, 16, 17] (fun f1 f2 i wx => ∃ k : Nat, k ≤ L ∧ i = .int .i64 k ∧ Inl wx w5.heap.size f1 (fsO (R.take k)) ∧ Inl wx w5.heap.size f2 (snO (R.take k)) ∧ (∀ x, f1.ownBlock = some x → f2.ownBlock ≠ some x) ∧ Below w5.heap.size w5 wx) (fun _ _ i _ => L - (intOf i).toNat)
    case atStart => exact ⟨0, Nat.zero_le _, rfl, Inl.nil _ _, Inl.nil _ _, fun x hx => (nomatch hx), Below.refl _ _⟩
    case round =>
      obtain ⟨k, hk, rfl, hi1, hi2, hd, hb6⟩ := hrel
      by_cases hlt : k < L
      · have hkl : k < R.length := by rw [HL.out]; exact hlt
        obtain ⟨b3, o3, rfl, hat⟩ := Pai.at1 (HP5.out.below hb6) hkl
        obtain ⟨x1, x2⟩ := hat k hkl
        have hn1 := fsO_new t1 hkl
        have hn2 := snO_new t2 hkl
        have hme := t6 (R.getD k (0, 0)) (by
          have : R.getD k (0, 0) = R[k] := by simp [hkl]
          rw [this]; exact List.getElem_mem hkl)
        have htk := take_at hkl
        obtain ⟨e, he⟩ : ∃ e, R.getD k (0, 0) = e := ⟨_, rfl⟩
        rw [he] at x1 x2 hn1 hn2 hme htk
        have hf1 : fsO (R.take (k + 1)) = fsO (R.take k) ++ if e.1 < 0 then [] else [e.1] := by rw [htk, fsO_app, fsO_one]
        have hf2 : snO (R.take (k + 1)) = snO (R.take k) ++ if e.2 < 0 then [] else [e.2] := by rw [htk, snO_app, snO_one]
        obtain ⟨u, v⟩ := e
        simp only [] at x1 x2 hn1 hn2 hme hf1 hf2
        have hl1 : (fsO (R.take k)).length ≤ 8 := by
          unfold fsO
          rw [List.length_map]
          have := List.length_filterMap_le (fun e => plM e.1) (R.take k)
          rw [List.length_take] at this
          omega
        have hl2 : (snO (R.take k)).length ≤ 8 := by
          unfold snO
          rw [List.length_map]
          have := List.length_filterMap_le (fun e => plM e.2) (R.take k)
          rw [List.length_take] at this
          omega
        obtain ⟨A, hA⟩ : ∃ A, fsO (R.take k) = A := ⟨_, rfl⟩
        obtain ⟨B, hB⟩ : ∃ B, snO (R.take k) = B := ⟨_, rfl⟩
        rw [hA] at hi1 hn1 hf1 hl1
        rw [hB] at hi2 hn2 hf2 hl2
        clear hat htk he hA hB
        obtain ⟨a1, d1, he1, hs1, _⟩ := hi1.ins
        obtain ⟨a2, d2, he2, hs2, _⟩ := hi2.ins
        have hh1 : ∀ w', Ins w' a1 A → Calls Tryd.prog 6 #[.slice a1 A.length d1, .int .i64 u] w' fun e w'' => e = .returned (.bool false) ∧ w'' = w' := fun w' h => by
          have := has_num a1 A u d1 A.length w' rfl h (by unfold maxLen; omega)
          rw [show decide (u ∈ A) = false by simpa using hn1] at this
          exact this
        have hh2 : ∀ w', Ins w' a2 B → Calls Tryd.prog 6 #[.slice a2 B.length d2, .int .i64 v] w' fun e w'' => e = .returned (.bool false) ∧ w'' = w' := fun w' h => by
          have := has_num a2 B v d2 B.length w' rfl h (by unfold maxLen; omega)
          rw [show decide (v ∈ B) = false by simpa using hn2] at this
          exact this
        have hzz := hb6.size
        have ho1 : ∀ x, u15.ownBlock = some x → w5.heap.size ≤ x ∧ x < wr.heap.size := hi1.own
        have ho2 : ∀ x, u16.ownBlock = some x → w5.heap.size ≤ x ∧ x < wr.heap.size := hi2.own
        obtain ⟨la, hla⟩ : ∃ la, A.length = la := ⟨_, rfl⟩
        obtain ⟨lb, hlb⟩ : ∃ lb, B.length = lb := ⟨_, rfl⟩
        rw [hla] at hh1 he1 hl1
        rw [hlb] at hh2 he2 hl2
        have HF1 : Hid _ := hf1
        have HF2 : Hid _ := hf2
        have HI1 : Hid (Inl wr w5.heap.size u15 A) := hi1
        have HI2 : Hid (Inl wr w5.heap.size u16 B) := hi2
        have HD : Hid (∀ x, u15.ownBlock = some x → u16.ownBlock ≠ some x) := hd
        have HO1 : Hid _ := ho1
        have HO2 : Hid _ := ho2
        have HB6 : Hid (Below w5.heap.size w5 wr) := hb6
        have HS1 : Hid (Ins wr a1 A) := hs1
        have HS2 : Hid (Ins wr a2 B) := hs2
        obtain ⟨m1, m2, m3, m4, m5⟩ := hme
        clear hi1 hi2 hd ho1 ho2 hb6 hs1 hs2 hn1 hn2 hf1 hf2
        subst he1 he2
        have hA1 : A.length + 1 ≤ 100000 := by omega
        have hB1 : B.length + 1 ≤ 100000 := by omega
        have hfirst : ∀ (W : World), Inl W w5.heap.size (.slice a1 la d1) A → w5.heap.size ≤ W.heap.size → Inl (W.alloc (.cells #[.int .i64 u] 3)) w5.heap.size (.slice a1 la d1) A ∧ Ins (W.alloc (.cells #[.int .i64 u] 3)) (some ⟨W.heap.size, 0, none⟩) [u] ∧ w5.heap.size ≤ (W.alloc (.cells #[.int .i64 u] 3)).heap.size := fun W h1 h2 => ⟨h1.later (below_alloc _ _), ins_one W u, by simp; omega⟩
        have hthen : ∀ (W : World), Inl W w5.heap.size (.slice a2 lb d2) B → w5.heap.size ≤ W.heap.size → Inl (W.alloc (.cells #[.int .i64 v] 3)) w5.heap.size (.slice a2 lb d2) B ∧ Ins (W.alloc (.cells #[.int .i64 v] 3)) (some ⟨W.heap.size, 0, none⟩) [v] ∧ w5.heap.size ≤ (W.alloc (.cells #[.int .i64 v] 3)).heap.size := fun W h1 h2 => ⟨h1.later (below_alloc _ _), ins_one W v, by simp; omega⟩
        by_cases hu : u < 0
        · have hv : 0 ≤ v := by omega
          have e1 : fsO (R.take (k + 1)) = A := by rw [HF1.out, if_pos hu, List.append_nil]
          have e2 : snO (R.take (k + 1)) = B ++ [v] := by rw [HF2.out, if_neg (by omega)]
          have E1 : Hid _ := e1
          have E2 : Hid _ := e2
          obtain ⟨q1, q2, q3⟩ := hthen wr HI2.out hzz
          clear e1 e2 HF1 HF2 hfirst hthen m1
          go_wp2_with (first
            | (go_at_call 6; refine (hh1 _ HS1.out).mono ?_; rintro e w7 ⟨rfl, h⟩; cases h; clear hh1)
            | (go_at_call 6; refine (hh2 _ HS2.out).mono ?_; rintro e w7 ⟨rfl, h⟩; cases h; clear hh2)
            | (at_builtin; refine append_ints_at rfl _ _ rfl w5.heap.size (.slice a2 lb d2) B rfl q1 (some ⟨wr.heap.size, 0, none⟩) [v] 1 1 rfl rfl q2 hB1 q3 ?_; intro v8 w8 hI8 hg8 hv8)
            | go_in)
          go_roundw
          case rel =>
            refine ⟨k + 1, by omega, by go_num, ?_, by rw [E2.out]; exact hI8, fun x hx hx2 => ?_, (HB6.out.trans ((below_alloc wr _).mono hzz)).grown hg8 q3 (fun x hx => (HO2.out x hx).1)⟩
            · rw [E1.out]
              exact (HI1.out.later (below_alloc _ _)).grown hg8 fun x hx hx2 => HD.out x hx hx2
            · have h1 := HO1.out x hx
              rcases hv8 with h | h
              · exact HD.out x hx (h ▸ hx2)
              · rw [h] at hx2
                have := Option.some.inj hx2
                simp at this
                omega
          case measure => simp [intOf]; omega
        · have hu : 0 ≤ u := by omega
          have e1 : fsO (R.take (k + 1)) = A ++ [u] := by rw [HF1.out, if_neg (by omega)]
          have E1 : Hid _ := e1
          obtain ⟨q1, q2, q3⟩ := hfirst wr HI1.out hzz
          clear e1 HF1 hfirst m1
          by_cases hv : v < 0
          · have e2 : snO (R.take (k + 1)) = B := by rw [HF2.out, if_pos hv, List.append_nil]
            have E2 : Hid _ := e2
            clear e2 HF2 hthen
            go_wp2_with (first
              | (go_at_call 6; refine (hh1 _ HS1.out).mono ?_; rintro e w7 ⟨rfl, h⟩; cases h; clear hh1)
              | (go_at_call 6; refine (hh2 _ HS2.out).mono ?_; rintro e w7 ⟨rfl, h⟩; cases h; clear hh2)
              | (at_builtin; refine append_ints_at rfl _ _ rfl w5.heap.size (.slice a1 la d1) A rfl q1 (some ⟨wr.heap.size, 0, none⟩) [u] 1 1 rfl rfl q2 hA1 q3 ?_; intro v8 w8 hI8 hg8 hv8)
              | go_in)
            go_roundw
            case rel =>
              refine ⟨k + 1, by omega, by go_num, by rw [E1.out]; exact hI8, ?_, fun x hx hx2 => ?_, (HB6.out.trans ((below_alloc wr _).mono hzz)).grown hg8 q3 (fun x hx => (HO1.out x hx).1)⟩
              · rw [E2.out]
                exact (HI2.out.later (below_alloc _ _)).grown hg8 fun x hx hx2 => HD.out x hx2 hx
              · have h1 := HO2.out x hx2
                rcases hv8 with h | h
                · exact HD.out x (h ▸ hx) hx2
                · rw [h] at hx
                  have := Option.some.inj hx
                  simp at this
                  omega
            case measure => simp [intOf]; omega
          · have hv : 0 ≤ v := by omega
            have e2 : snO (R.take (k + 1)) = B ++ [v] := by rw [HF2.out, if_neg (by omega)]
            have E2 : Hid _ := e2
            have HTH : Hid _ := hthen
            clear e2 HF2 hthen
            go_upto_region 36 with (first
              | (go_at_call 6; refine (hh1 _ HS1.out).mono ?_; rintro e w7 ⟨rfl, h⟩; cases h; clear hh1)
              | (go_at_call 6; refine (hh2 _ HS2.out).mono ?_; rintro e w7 ⟨rfl, h⟩; cases h; clear hh2)
              | (at_builtin; refine append_ints_at rfl _ _ rfl w5.heap.size (.slice a1 la d1) A rfl q1 (some ⟨wr.heap.size, 0, none⟩) [u] 1 1 rfl rfl q2 hA1 q3 ?_; intro v8 w8 hI8 hg8 hv8)
              | go_in)
            have hI9 : Inl w8 w5.heap.size (.slice a2 lb d2) B := (HI2.out.later (below_alloc _ _)).grown hg8 fun x hx hx2 => HD.out x hx2 hx
            have hz8 : w5.heap.size ≤ w8.heap.size := Nat.le_trans q3 hg8.size
            have hb8 : Below w5.heap.size w5 w8 := (HB6.out.trans ((below_alloc wr _).mono hzz)).grown hg8 q3 (fun x hx => (HO1.out x hx).1)
            obtain ⟨r1, r2, r3⟩ := HTH.out w8 hI9 hz8
            have hd8 : ∀ x, v8.ownBlock = some x → (Value.slice a2 lb d2).ownBlock ≠ some x := fun x hx hx2 => by
              have h1 := HO2.out x hx2
              rcases hv8 with h | h
              · exact HD.out x (h ▸ hx) hx2
              · rw [h] at hx
                have := Option.some.inj hx
                simp at this
                omega
            have HD8 : Hid _ := hd8
            have HI8 : Hid (Inl w8 w5.heap.size v8 (A ++ [u])) := hI8
            have HO8 : Hid (∀ x, v8.ownBlock = some x → w5.heap.size ≤ x ∧ x < w8.heap.size) := hI8.own
            have hb9 := hb8.trans ((below_alloc w8 (.cells #[.int .i64 v] 3)).mono hz8)
            clear hd8 hI8 hI9 hb8 hg8 hv8 q1 q2 HTH
            go_wp2_with (first
              | (at_builtin; refine append_ints_at rfl _ _ rfl w5.heap.size (.slice a2 lb d2) B rfl r1 (some ⟨w8.heap.size, 0, none⟩) [v] 1 1 rfl rfl r2 hB1 r3 ?_; intro v10 w10 hI10 hg10 hv10)
              | go_in)
            go_roundw
            case rel =>
              refine ⟨k + 1, by omega, by go_num, ?_, by rw [E2.out]; exact hI10, fun x hx hx2 => ?_, hb9.grown hg10 r3 (fun x hx => (HO2.out x hx).1)⟩
              · rw [E1.out]
                exact (HI8.out.later (below_alloc _ _)).grown hg10 fun x hx hx2 => HD8.out x hx hx2
              · have h1 := HO8.out x hx
                rcases hv10 with h | h
                · exact HD8.out x hx (h ▸ hx2)
                · rw [h] at hx2
                  have := Option.some.inj hx2
                  simp at this
                  omega
            case measure => simp [intOf]; omega
      · have hkL : R.take k = R := List.take_of_length_le (by rw [HL.out]; omega)
        rw [hkL] at hi1 hi2
        obtain ⟨a1, d1, rfl, _, _⟩ := hi1.ins
        obtain ⟨a2, d2, rfl, _, _⟩ := hi2.ins
        rw [t3, t4]
        have hfin : Below w.heap.size w wr := HB5.out.trans (hb6.mono HB5.out.size)
        clear hi1 hi2 hkL t1 t2 t3 t4 t6 hd hb6
        go_wp2
        go_ret
        exact ⟨by first | rfl | trivial, hfin⟩

end

end Go.Proofs.YtfmhapajdnmhoafDoor
