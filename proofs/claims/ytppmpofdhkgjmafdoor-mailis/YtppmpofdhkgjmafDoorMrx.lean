/-
  Walks of mail.readBox, mail.Open.
-/
import Derived.Test.YtppmpofdhkgjmafDoorMpr2
import Derived.Test.YtppmpofdhkgjmafDoorMbp

namespace Go.Proofs.YtppmpofdhkgjmafDoor
open Go.RowKit Dist

/-- What the library's variable on short texts holds: a number, whatever. -/
def Gm (w : World) : Prop := ∃ m, w.cell? ⟨1, 0, none⟩ = some (.int .i64 m)
theorem Gm.below {w w' : World} (h : Gm w) (hb : Below w.heap.size w w') : Gm w' := h.elim fun _ h => ⟨_, cell_later hb h⟩

theorem splitB_pos (t : ByteArray) (k : Nat) (s : ByteArray) : 1 ≤ (Lib.splitB t 0 k s).length := by
  cases k with
  | zero => simp [Lib.splitB]
  | succ k => rw [Lib.splitB]; split <;> simp

theorem bts_len_le (ps : List ByteArray) (t : List UInt8) (n : Nat) (s : List UInt8) (h : bts ps = spl t n s) (i : Nat) : (ps.getD i ByteArray.empty).size ≤ s.length := by
  rw [Lib.size_eq, getD_bts, h]; exact spl_getD_len _ _ _ _

/-- The mails that a box has, as they are read. -/
def rbL (ps : List ByteArray) : List Mb := (ps.drop 1).map fun p => mbl (rd p.data.toList)
theorem rbL_rdB (s : List UInt8) (ps : List ByteArray) (h : bts ps = spl (10 :: kB) 18 (rdq s)) : rbL ps = (rdB s).map mbl := by
  unfold rdB rbL
  rw [← h]
  show _ = List.map mbl (List.map rd (List.drop 1 (ps.map (·.data.toList))))
  rw [← List.map_drop, List.map_map, List.map_map]; rfl
theorem rbL_len (ps : List ByteArray) : (rbL ps).length = ps.length - 1 := by simp [rbL]
theorem rbL_get (ps : List ByteArray) (k : Nat) (h : k < (rbL ps).length) : (rbL ps).getD k mz = mbl (rd (ps.getD (1 + k) ByteArray.empty).data.toList) := by
  rw [rbL_len] at h
  have h1 : 1 + k < ps.length := by omega
  unfold rbL
  rw [List.getD_eq_getElem?_getD, List.getElem?_map, List.getElem?_drop, List.getD_eq_getElem?_getD, List.getElem?_eq_getElem h1]; rfl

set_option maxRecDepth 100000 in
set_option maxHeartbeats 2000000 in
theorem readBox (s : ByteArray) (hs : s.size ≤ 4000000000) (w : World) (hg : Gm w) :
    Calls Tryd.prog 51 #[.string s] w fun e w' => ∃ a cap, e = .returned (.slice a ((rdB s.data.toList).map mbl).length cap) ∧ Mls w' a ((rdB s.data.toList).map mbl) ∧ Below w.heap.size w w' := by
  obtain ⟨i0, hi0, hz0, hz1, hz2⟩ := info_parts Tryd.infoMail
  have tsx := fun W => Tryd.strings_TrimSuffix s ⟨#[10]⟩ W (by omega)
  have hz : (⟨(Lib.trimSuffix s.data.toList [10]).toArray⟩ : ByteArray).size ≤ s.size := by
    rw [Lib.size_eq, Lib.size_eq]; exact ts_len _ _
  obtain ⟨T, hT⟩ : ∃ T : ByteArray, (⟨(Lib.trimSuffix s.data.toList [10]).toArray⟩ : ByteArray) = T := ⟨_, rfl⟩
  have hTl : Lib.trimSuffix s.data.toList [10] = T.data.toList := by rw [← hT]
  rw [show ((⟨#[10]⟩ : ByteArray).data.toList) = [10] from rfl, hT] at tsx
  rw [hT] at hz
  obtain ⟨U, hU⟩ : ∃ U : ByteArray, (⟨#[10]⟩ : ByteArray) ++ T = U := ⟨_, rfl⟩
  have hUl : U.data.toList = rdq s.data.toList := by
    rw [← hU, app_data]; unfold rdq; rw [hTl]; rfl
  have hUs : U.size ≤ 4000000001 := by
    rw [← hU, ByteArray.size_append]
    show 1 + T.size ≤ _
    omega
  obtain ⟨m, hm⟩ := hg
  have hsp := Tryd.strings_SplitN U ⟨#[10, 70, 114, 111, 109, 32, 45, 32, 10]⟩ 18 m w (by omega) hm (by decide) (by decide) (by decide)
  have hd := spl_bytes ⟨#[10, 70, 114, 111, 109, 32, 45, 32, 10]⟩ 18 U
  have hl := Lib.splitB_length_le ⟨#[10, 70, 114, 111, 109, 32, 45, 32, 10]⟩ 0 (min 18 (U.size + 1) - 1) U
  have hp := splitB_pos ⟨#[10, 70, 114, 111, 109, 32, 45, 32, 10]⟩ (min 18 (U.size + 1) - 1) U
  obtain ⟨N, hN⟩ : ∃ N, min 18 (U.size + 1) = N := ⟨_, rfl⟩
  have hN18 : N ≤ 18 := by omega
  have hN1 : 1 ≤ N := by omega
  rw [hN] at hsp hd hl hp
  obtain ⟨ps, hps⟩ : ∃ ps, Lib.splitB ⟨#[10, 70, 114, 111, 109, 32, 45, 32, 10]⟩ 0 (N - 1) U = ps := ⟨_, rfl⟩
  rw [hps] at hsp hd hl hp
  rw [hUl] at hd
  have hRB := rbL_rdB s.data.toList ps hd
  have hRL := rbL_len ps
  have hRG := rbL_get ps
  have hPS := bts_len_le ps _ _ _ hd
  rw [← hUl, ← Lib.size_eq] at hPS
  obtain ⟨n, hn⟩ : ∃ n, ps.length = n + 1 := ⟨ps.length - 1, by omega⟩
  rw [← hRB]
  obtain ⟨L, hL⟩ : ∃ L, rbL ps = L := ⟨_, rfl⟩
  rw [hL] at hRL hRG ⊢
  rw [hn, Nat.add_sub_cancel] at hRL
  rw [hRL] at hRG ⊢
  have hcw : ∀ k, k < n → (w.alloc (.cells (Lib.cellsOf ps N) 9)).cell? ⟨w.heap.size, 1 + k, none⟩ = some (.string (ps.getD (1 + k) ByteArray.empty)) := fun k hk => by
    rw [Lib.cell_of_heap (heap_alloc_new w _), cellsOf_at ps N _ (by omega)]
  have hb1 := below_alloc w (.cells (Lib.cellsOf ps N) 9)
  have hs1 : (w.alloc (.cells (Lib.cellsOf ps N) 9)).heap.size = w.heap.size + 1 := by simp
  have hUn : Hid ((⟨#[10]⟩ : ByteArray) ++ T = U) := hU
  rw [hn] at hsp
  have hnN : n + 1 ≤ N := by omega
  have HCW : Hid _ := hcw
  have HRG : Hid _ := hRG
  have HPS : Hid _ := hPS
  have HRL : Hid (L.length = n) := hRL
  have HB1 : Hid _ := hb1
  clear hcw hRG hPS hRB hL hn hps hd hl hp hN hm hT hTl hU hUl hb1 hRL
  by_cases hN2 : N = 1
  · subst hN2
    have hn0 : n = 0 := by omega
    go_enter Tryd.func51, Tryd.ntmps51
    go_wp2_with (first
      | (go_at_call 72; refine (tsx _).mono ?_; clear tsx; rintro e w1 ⟨rfl, rfl⟩)
      | (rw [hUn.out]; go_at_call 70; refine hsp.mono ?_; clear hsp; rintro e w0 ⟨rfl, rfl⟩))
    clear hUn
    generalize w1.alloc (.cells (Lib.cellsOf ps 1) 9) = W1 at HB1 HCW hs1 ⊢
    go_loopw [5, 16] (fun v i wr => ∃ (k : Nat) (a : Option Addr) (cap : Nat), k ≤ n ∧ i = .int .i64 k ∧ v = .slice a k cap ∧ Hid (∃ xs, wr.ownsRow W1.heap.size 51 4 (.slice a k cap) k xs ∧ Mva wr (Value.slice a k cap).ownBlock xs (L.take k)) ∧ Hid (Below W1.heap.size W1 wr)) (fun _ i _ => n - (intOf i).toNat)
    case atStart => exact ⟨0, none, 0, Nat.zero_le _, rfl, rfl, ⟨[], World.ownsRow_nil _ _ _ _, Mva.nil _ _⟩, Below.refl _ _⟩
    case round =>
      obtain ⟨k, a, cap, hk, rfl, rfl, HROW, HB⟩ := hrel
      have hlt : ¬ k < n := by omega
      by_cases hz : k < n
      · exact absurd hz hlt
      · obtain rfl : k = n := by omega
        have hlt' : ¬ (k : Int) < (k : Int) := by omega
        go_wp2
        go_ret
        obtain ⟨xs, hown, hmv⟩ := HROW.out
        rw [List.take_of_length_le (by rw [HRL.out]; exact Nat.le_refl _)] at hmv
        have hown2 : wr.ownsRow W1.heap.size 51 4 (.slice a k cap) L.length xs := by rw [HRL.out]; exact hown
        obtain ⟨_, h1, h2⟩ := mls_of_own hown2 hmv.mvs
        exact ⟨a, ⟨cap, rfl⟩, h1, HB1.out.trans (HB.out.mono HB1.out.size)⟩
  · go_enter Tryd.func51, Tryd.ntmps51
    go_wp2_with (first
      | (go_at_call 72; refine (tsx _).mono ?_; clear tsx; rintro e w1 ⟨rfl, rfl⟩)
      | (rw [hUn.out]; go_at_call 70; refine hsp.mono ?_; clear hsp; rintro e w0 ⟨rfl, rfl⟩))
    clear hUn
    generalize w1.alloc (.cells (Lib.cellsOf ps N) 9) = W1 at HB1 HCW hs1 ⊢
    go_loopw [5, 16] (fun v i wr => ∃ (k : Nat) (a : Option Addr) (cap : Nat), k ≤ n ∧ i = .int .i64 k ∧ v = .slice a k cap ∧ Hid (∃ xs, wr.ownsRow W1.heap.size 51 4 (.slice a k cap) k xs ∧ Mva wr (Value.slice a k cap).ownBlock xs (L.take k)) ∧ Hid (Below W1.heap.size W1 wr)) (fun _ i _ => n - (intOf i).toNat)
    case atStart => exact ⟨0, none, 0, Nat.zero_le _, rfl, rfl, ⟨[], World.ownsRow_nil _ _ _ _, Mva.nil _ _⟩, Below.refl _ _⟩
    case round =>
      obtain ⟨k, a, cap, hk, rfl, rfl, HROW, HB⟩ := hrel
      by_cases hlt : k < n
      · have hlt' : (k : Int) < (n : Int) := by omega
        have hcell := cell_later HB.out (HCW.out k hlt)
        have hps := HPS.out (1 + k)
        have hrg := HRG.out k hlt
        obtain ⟨p, hp⟩ : ∃ p, ps.getD (1 + k) ByteArray.empty = p := ⟨_, rfl⟩
        rw [hp] at hcell hps hrg
        have hrd := fun W => readMail p (by omega) W
        obtain ⟨M, hM⟩ : ∃ M, mbl (rd p.data.toList) = M := ⟨_, rfl⟩
        rw [hM] at hrg hrd
        have HTK : Hid (L.take (k + 1) = L.take k ++ [M]) := by
          show _ = _
          rw [take_snoc (by rw [HRL.out]; exact hlt), hrg]
        obtain ⟨F, S, D, X⟩ := M
        simp only at hrd
        obtain ⟨xs, hown, hmv⟩ := HROW.out
        have HMV : Hid (Mva wr (Value.slice a k cap).ownBlock xs (L.take k)) := hmv
        have HOWN : Hid (wr.ownsRow W1.heap.size 51 4 (.slice a k cap) k xs) := hown
        clear hp hM hps hrg hown hmv HROW
        go_wp2_with (go_at_call 50; refine (hrd _).mono ?_)
        clear hrd
        rintro e w2 ⟨a4, c4, rfl, hy4, hn4, hb2⟩
        have hb4 := below_alloc w2 (.cells #[.string F, .string S, .string D, .slice a4 X.length c4] 51)
        have hbc4 := hb2.trans (hb4.mono hb2.size)
        have hown4 := own_all HOWN.out hbc4
        have HMV4 : Hid (Mva (w2.alloc (.cells #[.string F, .string S, .string D, .slice a4 X.length c4] 51)) (Value.slice a k cap).ownBlock xs (L.take k)) := HMV.out.all hbc4
        have HB4 : Hid (Below W1.heap.size W1 (w2.alloc (.cells #[.string F, .string S, .string D, .slice a4 X.length c4] 51))) := HB.out.trans (hbc4.mono HB.out.size)
        have HY4 : Hid (Bya (w2.alloc (.cells #[.string F, .string S, .string D, .slice a4 X.length c4] 51)) a4 X c4) := hy4.all hb4
        have HNE : Hid (∀ A, a4 = some A → some A.block ≠ (Value.slice a k cap).ownBlock) := fun A hA e => by
          have h1 := hn4 A hA
          have h2 := (HOWN.out.lt _ e.symm).2
          omega
        have hwb : W1.heap.size ≤ w2.heap.size := Nat.le_trans HB.out.size hb2.size
        clear hy4 hn4 hb2 hb4 hbc4
        go_wp2_with (at_builtin; refine wpList_append_own_at _ rfl _ _ 52 rfl W1.heap.size 51 i0 (.agg #[.string ByteArray.empty, .string ByteArray.empty, .string ByteArray.empty, .slice none 0 0]) 4 72 Tryd.underlying52 hi0 hz0 hz1 hz2 rfl (by decide) _ _ _ rfl hown4 ⟨w2.heap.size, 0, none⟩ 1 1 [.string F, .string S, .string D, .slice a4 X.length c4] rfl rfl (cell_four_new w2 (.string F) (.string S) (.string D) (.slice a4 X.length c4) 51) (fun x hx => by simp at hx; rcases hx with rfl | rfl | rfl | rfl <;> rfl) (by unfold maxLen; omega) (by omega) (by simp; omega) ?_; intro v' w6 hown6 hgrow6 hnil6 hblk6; obtain ⟨g6, cap6, rfl⟩ := ownsRow_succ hown6)
        go_roundw
        case rel =>
          refine ⟨k + 1, some ⟨g6, 0, none⟩, cap6, by omega, by go_num, rfl, ⟨_, hown6, ?_⟩, HB4.out.grown hgrow6 (by simp; omega) (fun j hj => (hown4.lt j hj).1)⟩
          rw [HTK.out]
          exact HMV4.out.snoc (m := (F, S, D, X)) HY4.out HNE.out hgrow6 hblk6
        case measure => simp [intOf]; omega
      · obtain rfl : k = n := by omega
        have hlt' : ¬ (k : Int) < (k : Int) := by omega
        go_wp2
        go_ret
        obtain ⟨xs, hown, hmv⟩ := HROW.out
        rw [List.take_of_length_le (by rw [HRL.out]; exact Nat.le_refl _)] at hmv
        have hown2 : wr.ownsRow W1.heap.size 51 4 (.slice a k cap) L.length xs := by rw [HRL.out]; exact hown
        obtain ⟨_, h1, h2⟩ := mls_of_own hown2 hmv.mvs
        exact ⟨a, ⟨cap, rfl⟩, h1, HB1.out.trans (HB.out.mono HB1.out.size)⟩

set_option maxRecDepth 100000 in
set_option maxHeartbeats 1000000 in
theorem openBox (s : ByteArray) (w : World) (hs : s.size ≤ 4000000000) (hg : Gm w) :
    Calls Tryd.prog 26 #[.string s] w fun e w' => ∃ a cap, e = .returned (.tuple #[.slice a (boL (bof 16 s.data.toList)).length cap, errV (boE (bof 16 s.data.toList))]) ∧ Mls w' a (boL (bof 16 s.data.toList)) ∧ Below w.heap.size w w' := by
  have hrb := readBox s hs w hg
  have hbo := bof_rd s.data.toList
  obtain ⟨L, hL⟩ : ∃ L, (rdB s.data.toList).map mbl = L := ⟨_, rfl⟩
  have hL2 : rdB s.data.toList = L.map mlb := by
    rw [← hL, List.map_map]; exact (List.map_id' _).symm
  have hLn : L.length ≤ 1000000 := by
    rw [← hL, List.length_map]
    unfold rdB spl
    rw [List.length_map, List.length_drop]
    have := Lib.splitB_length_le ⟨(10 :: kB).toArray⟩ 0 (min 18 ((rdq s.data.toList).length + 1) - 1) ⟨(rdq s.data.toList).toArray⟩
    have h2 := congrArg List.length (Lib.splitB_data ⟨(10 :: kB).toArray⟩ 0 (min 18 ((rdq s.data.toList).length + 1) - 1) ⟨(rdq s.data.toList).toArray⟩)
    rw [List.length_map] at h2
    rw [h2] at this
    have h3 : (Lib.splitK (10 :: kB) 0 (min 18 ((rdq s.data.toList).length + 1) - 1) (rdq s.data.toList)).length ≤ min 18 ((rdq s.data.toList).length + 1) - 1 + 1 := this
    omega
  rw [hL] at hrb
  rw [hL2] at hbo
  have hbx := fun (a : Option Addr) (c : Nat) (W : World) (h : Mls W a L) => boxMails a L c W h (by unfold maxLen; omega)
  obtain ⟨O, hO⟩ : ∃ O, bof 16 s.data.toList = O := ⟨_, rfl⟩
  rw [hO] at hbo ⊢
  obtain ⟨E, hE⟩ : ∃ E, bxf (L.map mlb) = E := ⟨_, rfl⟩
  obtain ⟨T, hT⟩ : ∃ T, bxT (L.map mlb) = T := ⟨_, rfl⟩
  simp only [hE, hT] at hbx
  have ways : (E = 0 ∧ T = s ∧ O = some (L.map mlb)) ∨ (E = 0 ∧ T ≠ s ∧ O = none) ∨ (E ≠ 0 ∧ O = none) := by
    have f0 : bxf (L.map mlb) = 0 ↔ (L.map mlb).length ≤ 16 ∧ ∀ m ∈ L.map mlb, mlOk m := by
      unfold bxf
      constructor
      · intro h
        split at h
        · cases h
        · rename_i h2
          exact ⟨by omega, fun m hm => by obtain ⟨y, hy, rfl⟩ := List.mem_map.1 hm; exact fsf_ok h y hy⟩
      · intro h
        rw [if_neg (by omega)]
        exact fsf_0 (fun m hm => mlf_0.2 (h.2 m hm))
    by_cases e : E = 0
    · have hok := f0.1 (hE.trans e)
      have hT2 : T.data.toList = btx (L.map mlb) := by
        rw [← hT, bxT, if_pos (hE.trans e)]
      by_cases q : btx (L.map mlb) = s.data.toList
      · rw [if_pos ⟨hok.1, hok.2, q⟩] at hbo
        exact .inl ⟨e, ByteArray.ext (Array.toList_inj.1 (hT2.trans q)), hbo⟩
      · rw [if_neg (fun h => q h.2.2)] at hbo
        exact .inr (.inl ⟨e, fun h => q (by rw [← hT2, h]), hbo⟩)
    · rw [if_neg (fun h => e (hE.symm.trans (f0.2 ⟨h.1, h.2.1⟩)))] at hbo
      exact .inr (.inr ⟨e, hbo⟩)
  have HLL : Hid ((L.map mlb).map mbl = L) := by
    show _ = _
    rw [List.map_map]; exact List.map_id' L
  clear hbo hE hT hL hL2 hO hLn
  rcases ways with ⟨rfl, rfl, rfl⟩ | ⟨rfl, hne, rfl⟩ | ⟨he, rfl⟩
  case' inl =>
    have hq : (T.toList == T.toList) = true := beq_self_eq_true _
    rw [errV_zero] at hbx
  case' inr.inl =>
    have hq : (T.toList == s.toList) = false := (Lib.bytes_beq_false_iff T s).2 hne
    rw [errV_zero] at hbx
    clear hne
  case' inr.inr =>
    rw [errV_not he] at hbx
    clear he
  case inl =>
    go_enter Tryd.func26, Tryd.ntmps26
    go_wp2_with (first
      | (go_at_call 51; refine hrb.mono ?_; clear hrb; rintro e w2 ⟨a2, c2, rfl, hm2, hb2⟩; replace hbx := hbx a2 c2 w2 hm2)
      | (go_at_call 24; refine hbx.mono ?_; clear hbx; rintro e w3 ⟨rfl, hb3⟩; replace hm2 : Hid (Mls w3 a2 L) := hm2.all hb3; replace hb3 : Hid (Below w.heap.size w w3) := hb2.trans (hb3.mono hb2.size)))
    go_ret2
    show ∃ a cap, _ = Ending.returned (.tuple #[.slice a ((L.map mlb).map mbl).length cap, .nilIface]) ∧ Mls w3 a ((L.map mlb).map mbl) ∧ _
    rw [HLL.out]
    exact ⟨a2, c2, rfl, hm2.out, hb3.out⟩
  all_goals
    go_enter Tryd.func26, Tryd.ntmps26
    go_wp2_with (first
      | (go_at_call 51; refine hrb.mono ?_; clear hrb; rintro e w2 ⟨a2, c2, rfl, hm2, hb2⟩; replace hbx := hbx a2 c2 w2 hm2)
      | (go_at_call 24; refine hbx.mono ?_; clear hbx; rintro e w3 ⟨rfl, hb3⟩; replace hm2 : Hid (Mls w3 a2 L) := hm2.all hb3; replace hb3 : Hid (Below w.heap.size w w3) := hb2.trans (hb3.mono hb2.size)))
    go_ret2
    exact ⟨none, 0, rfl, Mls.nil _ _, hb3.out⟩

end Go.Proofs.YtppmpofdhkgjmafDoor
