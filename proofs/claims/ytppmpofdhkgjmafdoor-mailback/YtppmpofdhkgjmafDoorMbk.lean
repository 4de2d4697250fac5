/-
  Walk of the law MailBack.
-/
import Derived.Test.YtppmpofdhkgjmafDoorMrx
import Derived.Test.YtppmpofdhkgjmafDoorSml
import Derived.Deep.DeepCutAuto
import Derived.Deep.CutRange
import Derived.Laws.OwnMore
import Derived.Lib.SlBytesConst
import Derived.Lib.AppendZeros

namespace Go.Proofs.YtppmpofdhkgjmafDoor
open Go.RowKit Dist

theorem mls_vals {w : World} {b off : Nat} {m : List Mb} (h : Mls w (some ⟨b, off, none⟩) m) : ∀ k, k ≤ m.length → ∃ ys : List Value, Mvs w ys (m.take k) ∧ (∀ (j : Nat) u, ys[j]? = some u → w.cell? ⟨b, off + j, none⟩ = some u) ∧ ∀ u ∈ ys, u.oneCell' = true
  | 0, _ => ⟨[], Mvs.nil w, fun j u hj => by simp at hj, fun u hu => absurd hu List.not_mem_nil⟩
  | k + 1, hk => by
    obtain ⟨ys, h1, h2, h3⟩ := mls_vals h k (by omega)
    obtain ⟨am, cm, c0, c1, c2, c3, hy⟩ := h.at (i := k) (by omega)
    have hl : ys.length = k * 4 := by rw [h1.1, List.length_take]; congr 1; omega
    refine ⟨ys ++ mcs (m.getD k mz) am cm, ?_, ?_, ?_⟩
    · rw [take_snoc (by omega)]; exact h1.append (Mvs.one hy)
    · intro j u hj
      by_cases e : j < ys.length
      · rw [List.getElem?_append_left e] at hj; exact h2 j u hj
      · rw [List.getElem?_append_right (by omega), hl] at hj
        obtain ⟨i, rfl⟩ : ∃ i, j = k * 4 + i := ⟨j - k * 4, by omega⟩
        rw [Nat.add_sub_cancel_left] at hj
        have hi : i < 4 := by
          have := (List.getElem?_eq_some_iff.1 hj).1
          exact this
        rw [← Nat.add_assoc]
        rcases (by omega : i = 0 ∨ i = 1 ∨ i = 2 ∨ i = 3) with rfl | rfl | rfl | rfl
        · cases hj; exact c0
        · cases hj; exact c1
        · cases hj; exact c2
        · cases hj; exact c3
    · intro u hu
      rcases List.mem_append.1 hu with hu | hu
      · exact h3 u hu
      · simp only [mcs, List.mem_cons, List.not_mem_nil, or_false] at hu
        rcases hu with rfl | rfl | rfl | rfl <;> rfl

/-- Mails that came in behind a row of one's own. -/
theorem app_mls {w W : World} {B : Nat} {v : Value} {l m : List Mb} {xs : List Value} {b : Option Addr} {cb : Nat} (hown : W.ownsRow B 51 4 v l.length xs) (hv : Mvs w xs l) (hm : Mls w b m) (hc : b = none → cb = 0 ∧ m = []) (hsp : ∀ x, b = some x → m = [] ∨ ∃ g o, x = ⟨g, o, none⟩) (hW : Below w.heap.size w W) (hB : B ≤ W.heap.size) (hlen : l.length + m.length ≤ 1000) (ty : TypeId) :
    ∃ ao cap W' ys, (Builtin.append_ #[52, 52] ty #[v, .slice b m.length cb]).run Tryd.prog W = .ok (.slice ao (l ++ m).length cap) W' ∧ W'.ownsRow B 51 4 (.slice ao (l ++ m).length cap) (l ++ m).length ys ∧ Mvs w ys (l ++ m) ∧ Below B W W' := by
  obtain ⟨i0, hi0, hz0, hz1, hz2⟩ := info_parts Tryd.infoMail
  have shape : ∀ {W : World} {v : Value} {n : Nat} {xs : List Value} {l : List Mb}, W.ownsRow B 51 4 v n xs → ∃ ao cap, v = .slice ao n cap := by
    intro W v n xs l h
    rcases h.2 with ⟨e, h0⟩ | ⟨g, cap, cur, e, _⟩
    · exact ⟨none, 0, by rw [e, h0]⟩
    · exact ⟨_, _, e⟩
  have hsome : ∀ x : Addr, b = some x → ∀ ys, Mvs w ys m → (∀ u ∈ ys, u.oneCell' = true) → (∀ (j : Nat) u, ys[j]? = some u → W.cell? (x.add j) = some u) → ∃ ao cap W' ys, (Builtin.append_ #[52, 52] ty #[v, .slice b m.length cb]).run Tryd.prog W = .ok (.slice ao (l ++ m).length cap) W' ∧ W'.ownsRow B 51 4 (.slice ao (l ++ m).length cap) (l ++ m).length ys ∧ Mvs w ys (l ++ m) ∧ Below B W W' := by
    rintro x rfl ys hys hone hcells
    obtain ⟨v', W', hr, h2, h3, _⟩ := run_append_own (P := Tryd.prog) W B 52 ty 51 i0 (.agg #[.string ByteArray.empty, .string ByteArray.empty, .string ByteArray.empty, .slice none 0 0]) 4 72 Tryd.underlying52 hi0 hz0 hz1 hz2 rfl (by decide) v l.length xs hown x m.length cb ys (by rw [hys.1]) hcells hone (by unfold maxLen; omega) (by omega) hB
    rw [← List.length_append] at h2
    obtain ⟨ao, cap, rfl⟩ := shape (l := l) h2
    exact ⟨ao, cap, W', xs ++ ys, hr, h2, hv.append hys, (Below.refl B W).grown h3 hB (fun k e => (hown.lt k e).1)⟩
  cases b with
  | none =>
    obtain ⟨rfl, rfl⟩ := hc rfl
    obtain ⟨ao, cap, rfl⟩ := shape (l := l) hown
    rw [List.append_nil]
    exact ⟨ao, cap, W, xs, run_append_owned_none W B 52 ty 51 i0 4 Tryd.underlying52 hi0 _ _ _ hown, hown, hv, Below.refl _ _⟩
  | some x =>
    rcases hsp x rfl with rfl | ⟨g, o, rfl⟩
    · exact hsome x rfl [] (Mvs.nil w) (fun u hu => absurd hu List.not_mem_nil) (fun j u h => by simp at h)
    · obtain ⟨ys, h1, h2, h3⟩ := mls_vals hm m.length (Nat.le_refl _)
      rw [List.take_length] at h1
      refine hsome _ rfl ys h1 h3 (fun j u hj => ?_)
      have ha : (⟨g, o, none⟩ : Addr).add j = ⟨g, o + j, none⟩ := by
        by_cases h0 : j = 0
        · subst h0; rfl
        · simp [Addr.add, h0]
      rw [ha]
      exact cell_later hW (h2 j u hj)

theorem mls_own2 {B : Nat} {a : Option Addr} {n cap : Nat} {l : List Mb} {xs : List Value} {w W : World} (h : W.ownsRow B 51 4 (.slice a n cap) l.length xs) (hv : Mvs w xs l) (hW : Below w.heap.size w W) : Mls W a l :=
  (mls_of_own h (hv.all hW)).2.1

/-- The first mail's text. -/
def fact1 : List UInt8 := [70, 114, 111, 109, 58, 32, 97, 10, 83, 117, 98, 106, 101, 99, 116, 58, 32, 98, 10, 77, 101, 115, 115, 97, 103, 101, 45, 73, 68, 58, 32, 60, 99, 62, 10, 67, 111, 110, 116, 101, 110, 116, 45, 84, 114, 97, 110, 115, 102, 101, 114, 45, 69, 110, 99, 111, 100, 105, 110, 103, 58, 32, 98, 97, 115, 101, 54, 52, 10, 10]
theorem fact1_mtx : mtx ([97], [98], [99], []) = fact1 := by
  have h : ltrs [] = [] := by
    unfold ltrs
    rw [show pd4 ((sxs []).map ltr) = [] by kernel_rfl, lnz_eq, if_neg (by decide), if_neg (by decide)]
  unfold mtx
  rw [h]
  rfl
theorem fact1_ok : mlOk ([97], [98], [99], []) := by decide

theorem factPrint (W : World) : Calls Tryd.prog 19 #[.agg #[.string ⟨#[97]⟩, .string ⟨#[98]⟩, .string ⟨#[99]⟩, .slice none 0 0]] W fun e w' => ∃ U : ByteArray, e = .returned (.tuple #[.string U, .nilIface]) ∧ U.toList = fact1 ∧ Below W.heap.size W w' := by
  refine (printMail ⟨#[97]⟩ ⟨#[98]⟩ ⟨#[99]⟩ [] none 0 W (.inl ⟨rfl, fun _ => rfl⟩)).mono ?_
  rintro e w' ⟨rfl, h⟩
  have h0 : mlf (mlb (⟨#[97]⟩, ⟨#[98]⟩, ⟨#[99]⟩, [])) = 0 := mlf_0.2 fact1_ok
  refine ⟨_, by rw [h0, errV_zero], ?_, h⟩
  unfold prT
  rw [if_pos h0, Lib.toList_data]
  exact fact1_mtx

/-- What a text that is parsed gives. -/
theorem parseTold (s : ByteArray) (hs : s.size ≤ 140737488355328) (W : World) : Calls Tryd.prog 21 #[.string s] W fun e w' => ∃ (F S D : ByteArray) (X : List UInt8) (a : Option Addr) (c : Nat) (f : Int), e = .returned (.tuple #[.agg #[.string F, .string S, .string D, .slice a X.length c], errV f]) ∧ Bya w' a X c ∧ Below W.heap.size W w' ∧ (f = 5 ∨ (f = 0 ∧ mlf (mlb (F, S, D, X)) = 0 ∧ prT (mlb (F, S, D, X)) = s)) := by
  refine (parseMail s W hs).mono ?_
  rintro e w' ⟨a, c, rfl, hy, hb⟩
  refine ⟨_, _, _, _, a, c, _, rfl, hy, hb, ?_⟩
  cases h : mof s.data.toList with
  | none => exact .inl rfl
  | some m =>
    refine .inr ⟨rfl, ?_⟩
    obtain ⟨h1, h2⟩ := mof_iff.1 h
    have h3 : mlb (mbl m) = m := mlb_mbl m
    show mlf (mlb (mbl m)) = 0 ∧ prT (mlb (mbl m)) = s
    rw [h3]
    refine ⟨mlf_0.2 h2, ?_⟩
    unfold prT
    rw [if_pos (mlf_0.2 h2), h1]

/-- What a mail's text gives when it is parsed. -/
theorem parseOwn (F S D : ByteArray) (X : List UInt8) (h : mlf (mlb (F, S, D, X)) = 0) (W : World) : Calls Tryd.prog 21 #[.string (prT (mlb (F, S, D, X)))] W fun e w' => ∃ (a : Option Addr) (c : Nat), e = .returned (.tuple #[.agg #[.string F, .string S, .string D, .slice a X.length c], .nilIface]) ∧ Bya w' a X c ∧ Below W.heap.size W w' := by
  have hl := mtx_len (mlf_0.1 h)
  have hp : prT (mlb (F, S, D, X)) = ⟨(mtx (mlb (F, S, D, X))).toArray⟩ := by unfold prT; rw [if_pos h]
  have hd : (prT (mlb (F, S, D, X))).data.toList = mtx (mlb (F, S, D, X)) := by rw [hp]
  refine (parseMail _ W (by rw [Lib.size_eq, hd]; omega)).mono ?_
  rw [hd, mof_mtx (mlf_0.1 h)]
  rintro e w' ⟨a, c, he, hy, hb⟩
  exact ⟨a, c, he, hy, hb⟩

theorem bxT_len {l : List Mb} (h : bxf (l.map mlb) = 0) : l.length ≤ 16 ∧ (bxT (l.map mlb)).size ≤ 1000000 ∧ bof 16 (bxT (l.map mlb)).data.toList = some (l.map mlb) ∧ (bxT (l.map mlb)).data.toList = btx (l.map mlb) ∧ ∀ m ∈ l.map mlb, mlOk m := by
  have h2 := h
  unfold bxf at h2
  split at h2
  · cases h2
  · rename_i h16
    rw [List.length_map] at h16
    have hok : ∀ m ∈ l.map mlb, mlOk m := fun m hm => by obtain ⟨y, hy, rfl⟩ := List.mem_map.1 hm; exact fsf_ok h2 y hy
    have hd : (bxT (l.map mlb)).data.toList = btx (l.map mlb) := by unfold bxT; rw [if_pos h]
    have hl := btx_len hok
    rw [List.length_map] at hl
    refine ⟨by omega, ?_, ?_, hd, hok⟩
    · rw [Lib.size_eq, hd]
      exact Nat.le_trans hl (Nat.le_trans (Nat.mul_le_mul_left _ (show l.length ≤ 16 by omega)) (by omega))
    · rw [hd]; exact bof_iff.2 ⟨rfl, by rw [List.length_map]; omega, hok⟩

/-- What a box of such mails gives when it is opened. -/
theorem openOwn (s : ByteArray) (l : List Mb) (W : World) (hs : s.size ≤ 4000000) (h : bof 16 s.data.toList = some (l.map mlb)) (hg : Gm W) : Calls Tryd.prog 26 #[.string s] W fun e w' => ∃ (a : Option Addr) (c : Nat), e = .returned (.tuple #[.slice a l.length c, .nilIface]) ∧ Mls w' a l ∧ Below W.heap.size W w' := by
  refine (openBox s W (by omega) hg).mono ?_
  rw [h]
  have hl : (l.map mlb).map mbl = l := by rw [List.map_map]; exact List.map_id' l
  rintro e w' ⟨a, c, he, hm, hb⟩
  simp only [boL, boE, hl] at he hm
  exact ⟨a, c, he, hm, hb⟩

set_option maxRecDepth 100000 in
set_option maxHeartbeats 8000000 in
theorem mailBack_any (f s0 d : ByteArray) (x : List UInt8) (am : Option Addr) (cm : Nat) (s : ByteArray) (a : Option Addr) (l : List Mb) (ca : Nat) (b : Option Addr) (k : List Mb) (cb : Nat) (w : World) (hx : Bya w am x cm) (hl : Mls w a l) (hlm : l.length ≤ maxLen) (hk : Mls w b k) (hkm : k.length ≤ maxLen) (hs : s.size ≤ 140737488355328) (hg : Gm w)
    (hla : a = none → ca = 0) (hkb : b = none → cb = 0) :
    Calls Tryd.prog 7 #[.agg #[.string f, .string s0, .string d, .slice am x.length cm], .string s, .slice a l.length ca, .slice b k.length cb] w fun e w' => e = .returned (.bool true) ∧ Below w.heap.size w w' := by
  have hb0 := below_alloc w (.cells #[.string f, .string s0, .string d, .slice am x.length cm] 51)
  have hc0 := fun W (h : Below (w.alloc (.cells #[.string f, .string s0, .string d, .slice am x.length cm] 51)).heap.size (w.alloc (.cells #[.string f, .string s0, .string d, .slice am x.length cm] 51)) W) => cells4_later h
  have HX : Hid (Bya w am x cm) := hx
  have HL : Hid (Mls w a l) := hl
  have HK : Hid (Mls w b k) := hk
  have HG : Hid (Gm w) := hg
  have HLM : Hid (l.length ≤ maxLen) := hlm
  have HKM : Hid (k.length ≤ maxLen) := hkm
  have HLA : Hid (a = none → ca = 0) := hla
  have HKB : Hid (b = none → cb = 0) := hkb
  obtain ⟨m, hm⟩ : ∃ m, x.length = m := ⟨_, rfl⟩
  have HM : Hid (x.length = m) := hm
  obtain ⟨n, hn⟩ : ∃ n, l.length = n := ⟨_, rfl⟩
  have HN : Hid (l.length = n) := hn
  obtain ⟨q, hq⟩ : ∃ q, k.length = q := ⟨_, rfl⟩
  have HQ : Hid (k.length = q) := hq
  rw [hn, hq, hm]
  rw [hm] at hb0 hc0
  have HB0 : Hid _ := hb0
  have HC0 : Hid _ := hc0
  clear hx hl hk hg hlm hkm hla hkb hm hn hq hb0 hc0
  have hpt := fun W => parseTold s hs W
  have hf1 := fun W => factPrint W
  go_enter Tryd.func7, Tryd.ntmps7
  go_upto_region 5 with (first
    | (go_at_call 19; refine (hf1 _).mono ?_; clear hf1; rintro e w1 ⟨U, rfl, hU, hb1⟩; unfold fact1 at hU)
    | (go_at_call 21; refine (hpt _).mono ?_; clear hpt; rintro e w2 ⟨F, S, D, X, a2, c2, f2, rfl, hy2, hb2, hf2⟩))
  have HW3 : Hid (Below (w.alloc (.cells #[.string f, .string s0, .string d, .slice am m cm] 51)).heap.size (w.alloc (.cells #[.string f, .string s0, .string d, .slice am m cm] 51)) (w2.alloc (.cells #[.string F, .string S, .string D, .slice a2 X.length c2] 51))) := by
    have h12 := hb1.trans (hb2.mono hb1.size)
    exact h12.trans ((below_alloc w2 _).mono h12.size)
  have HY3 : Hid (Bya (w2.alloc (.cells #[.string F, .string S, .string D, .slice a2 X.length c2] 51)) a2 X c2) := hy2.all (below_alloc w2 _)
  obtain ⟨d0, d1, d2, d3⟩ := cells4_later (Below.refl _ (w2.alloc (.cells #[.string F, .string S, .string D, .slice a2 X.length c2] 51)))
  obtain ⟨b2, hb2e⟩ : ∃ b2, decide (f2 = 0) = b2 := ⟨_, rfl⟩
  have HB2E : Hid (decide (f2 = 0) = b2) := hb2e
  have HF2 : Hid (f2 = 5 ∨ f2 = 0 ∧ mlf (mlb (F, S, D, X)) = 0 ∧ prT (mlb (F, S, D, X)) = s) := hf2
  clear hb1 hb2 hy2 hb2e hf2 hU
  generalize w2.alloc (.cells #[.string F, .string S, .string D, .slice a2 X.length c2] 51) = W3 at HW3 HY3 d0 d1 d2 d3 ⊢
  generalize w2.heap.size = B2 at d0 d1 d2 d3 ⊢
  go_cut [41] from 24 (fun u wx => u = .bool b2 ∧ wx = W3)
  case first =>
    rcases HF2.out with rfl | ⟨rfl, _⟩
    · rw [errV_not (e := 5) (by decide)]
      obtain rfl : b2 = false := by rw [← HB2E.out]; rfl
      go_wp2_with fail
      go_meet
      case rel => exact ⟨rfl, rfl⟩
    · rw [errV_zero]
      obtain rfl : b2 = true := by rw [← HB2E.out]; rfl
      go_wp2_with fail
      go_meet
      case rel => exact ⟨rfl, rfl⟩
  case rest =>
    obtain ⟨rfl, rfl⟩ := hcut
    go_upto_if 41 with fail
    go_cut [13, 14] from 24 (fun _ _ wx => Below (w.alloc (.cells #[.string f, .string s0, .string d, .slice am m cm] 51)).heap.size (w.alloc (.cells #[.string f, .string s0, .string d, .slice am m cm] 51)) wx)
    case first =>
      rcases HF2.out with rfl | ⟨rfl, h1, h2⟩
      · obtain rfl : b2 = false := by rw [← HB2E.out]; rfl
        go_wp2_with fail
        go_meet
        case rel => exact HW3.out
      · obtain rfl : b2 = true := by rw [← HB2E.out]; rfl
        have hpr := printMail F S D X a2 c2 wc HY3.out
        rw [h1, h2, errV_zero] at hpr
        have hss : (s.toList == s.toList) = true := beq_self_eq_true _
        clear h1 h2 HB2E
        go_wp2_with (go_at_call 19; refine hpr.mono ?_; clear hpr; rintro e w3 ⟨rfl, hb3⟩)
        go_meet
        case rel => exact HW3.out.trans (hb3.mono HW3.out.size)
    case rest =>
      have HC := hcut
      clear HF2 HB2E HW3 HY3 d0 d1 d2 d3
      obtain ⟨W4, hW4⟩ : ∃ W4, W4 = wc := ⟨_, rfl⟩
      rw [← hW4] at HC ⊢
      clear hW4 hcut
      have HBW : Hid (∀ W, Below (w.alloc (.cells #[.string f, .string s0, .string d, .slice am m cm] 51)).heap.size (w.alloc (.cells #[.string f, .string s0, .string d, .slice am m cm] 51)) W → Below w.heap.size w W) := fun W h => HB0.out.trans (h.mono HB0.out.size)
      have hpm := printMail f s0 d x am cm W4 (HX.out.all (HBW.out W4 HC))
      obtain ⟨E, hE⟩ : ∃ E, mlf (mlb (f, s0, d, x)) = E := ⟨_, rfl⟩
      obtain ⟨T, hT⟩ : ∃ T, prT (mlb (f, s0, d, x)) = T := ⟨_, rfl⟩
      have HE : Hid (mlf (mlb (f, s0, d, x)) = E) := hE
      have HT : Hid (prT (mlb (f, s0, d, x)) = T) := hT
      rw [hE, hT, HM.out] at hpm
      obtain ⟨d0, d1, d2, d3⟩ := HC0.out W4 HC
      clear hE hT
      go_upto_region 10 with (first
        | (go_at_call 19; refine hpm.mono ?_; clear hpm; rintro e w5 ⟨rfl, hb5⟩))
      have HC5 : Hid (Below (w.alloc (.cells #[.string f, .string s0, .string d, .slice am m cm] 51)).heap.size (w.alloc (.cells #[.string f, .string s0, .string d, .slice am m cm] 51)) w5) := HC.trans (hb5.mono HC.size)
      clear d0 d1 d2 d3 hb5 HC
      go_cut [12, 65] from 24 (fun v u wx => v = errV E ∧ u = .bool false ∧ Hid (Below (w.alloc (.cells #[.string f, .string s0, .string d, .slice am m cm] 51)).heap.size (w.alloc (.cells #[.string f, .string s0, .string d, .slice am m cm] 51)) wx))
      case first =>
        by_cases e0 : E = 0
        · subst e0
          rw [errV_zero]
          go_wp2_with fail
          go_meet
          case rel => exact ⟨errV_zero.symm, rfl, HC5.out⟩
        · rw [errV_not e0]
          have HE0 : Hid (E ≠ 0) := e0
          have hmf := mailFault f s0 d x am cm w5
          rw [HE.out, HM.out] at hmf
          have hq : (E == 0) = false := beq_eq_false_iff_ne.2 e0
          obtain ⟨d0, d1, d2, d3⟩ := HC0.out w5 HC5.out
          clear e0
          go_wp2_with (go_at_call 16; refine hmf.mono ?_; clear hmf; rintro e w6 ⟨rfl, hb6⟩)
          go_meet
          case rel => exact ⟨(errV_not HE0.out).symm, rfl, HC5.out.trans (hb6.mono HC5.out.size)⟩
      case rest =>
        obtain ⟨rfl, rfl, HC6⟩ := hcut
        clear HC5
        go_upto_region 12 with fail
        obtain ⟨W6, hW6⟩ : ∃ W6, W6 = wc := ⟨_, rfl⟩
        rw [← hW6] at HC6 ⊢
        clear hW6
        obtain ⟨b6, hb6e⟩ : ∃ b6, decide (E = 0) = b6 := ⟨_, rfl⟩
        have HB6E : Hid (decide (E = 0) = b6) := hb6e
        clear hb6e
        go_cut [12, 67] from 24 (fun v u wx => v = errV E ∧ u = .bool b6 ∧ wx = W6)
        case first =>
          by_cases e0 : E = 0
          · subst e0
            obtain rfl : b6 = true := by rw [← HB6E.out]; rfl
            rw [errV_zero]
            go_wp2_with fail
            go_meet
            case rel => exact ⟨errV_zero.symm, rfl, rfl⟩
          · obtain rfl : b6 = false := by rw [← HB6E.out]; exact decide_eq_false e0
            rw [errV_not e0]
            replace e0 : Hid (E ≠ 0) := e0
            go_wp2_with fail
            go_meet
            case rel => exact ⟨(errV_not e0.out).symm, rfl, rfl⟩
        case rest =>
          obtain ⟨rfl, rfl, rfl⟩ := hcut
          go_upto_if 67 with fail
          go_cut [12, 16, 17, 18] from 24 (fun _ _ _ _ wx => Below (w.alloc (.cells #[.string f, .string s0, .string d, .slice am m cm] 51)).heap.size (w.alloc (.cells #[.string f, .string s0, .string d, .slice am m cm] 51)) wx)
          case first =>
            by_cases e0 : E = 0
            · subst e0
              obtain rfl : b6 = true := by rw [← HB6E.out]; rfl
              have hpo := parseOwn f s0 d x HE.out wc
              rw [HT.out, HM.out] at hpo
              go_upto_region 14 with (go_at_call 21; refine hpo.mono ?_; clear hpo; rintro e w7 ⟨a5, c5, rfl, hy7, hb7⟩)
              have hc7 := cells4_later (Below.refl _ (w7.alloc (.cells #[.string f, .string s0, .string d, .slice a5 m c5] 51)))
              have hba := below_alloc w7 (.cells #[.string f, .string s0, .string d, .slice a5 m c5] 51)
              have HC7 : Below (w.alloc (.cells #[.string f, .string s0, .string d, .slice am m cm] 51)).heap.size (w.alloc (.cells #[.string f, .string s0, .string d, .slice am m cm] 51)) (w7.alloc (.cells #[.string f, .string s0, .string d, .slice a5 m c5] 51)) := HC6.out.trans ((hb7.trans (hba.mono hb7.size)).mono HC6.out.size)
              have HY7 : Hid (Bya (w7.alloc (.cells #[.string f, .string s0, .string d, .slice a5 m c5] 51)) a5 x c5) := hy7.all hba
              clear hba hy7 hb7
              generalize w7.alloc (.cells #[.string f, .string s0, .string d, .slice a5 m c5] 51) = W7 at HC7 HY7 hc7 ⊢
              generalize w7.heap.size = B7 at hc7 ⊢
              obtain ⟨p0, p1, p2, p3⟩ := hc7
              obtain ⟨d0, d1, d2, d3⟩ := HC0.out W7 HC7
              have hbA := below_alloc W7 (.cells #[.string f, .string s0, .string d, .slice a5 m c5] 51)
              have g1 := cells4_later (Below.refl _ (W7.alloc (.cells #[.string f, .string s0, .string d, .slice a5 m c5] 51)))
              have hsA : (W7.alloc (.cells #[.string f, .string s0, .string d, .slice a5 m c5] 51)).heap.size = W7.heap.size + 1 := by simp
              have hbB := below_alloc (W7.alloc (.cells #[.string f, .string s0, .string d, .slice a5 m c5] 51)) (.cells #[.string f, .string s0, .string d, .slice am m cm] 51)
              have g2 := cells4_later (Below.refl _ ((W7.alloc (.cells #[.string f, .string s0, .string d, .slice a5 m c5] 51)).alloc (.cells #[.string f, .string s0, .string d, .slice am m cm] 51)))
              have g1' := And.intro (cell_later hbB g1.1) (And.intro (cell_later hbB g1.2.1) (And.intro (cell_later hbB g1.2.2.1) (cell_later hbB g1.2.2.2)))
              have hbx := hbA.trans (hbB.mono hbA.size)
              have m1 : Mls ((W7.alloc (.cells #[.string f, .string s0, .string d, .slice a5 m c5] 51)).alloc (.cells #[.string f, .string s0, .string d, .slice am m cm] 51)) (some ⟨W7.heap.size, 0, none⟩) [(f, s0, d, x)] := mls_one g1'.1 g1'.2.1 g1'.2.2.1 (by rw [HM.out]; exact g1'.2.2.2) (HY7.out.all hbx)
              have m2 : Mls ((W7.alloc (.cells #[.string f, .string s0, .string d, .slice a5 m c5] 51)).alloc (.cells #[.string f, .string s0, .string d, .slice am m cm] 51)) (some ⟨(W7.alloc (.cells #[.string f, .string s0, .string d, .slice a5 m c5] 51)).heap.size, 0, none⟩) [(f, s0, d, x)] := mls_one g2.1 g2.2.1 g2.2.2.1 (by rw [HM.out]; exact g2.2.2.2) (HX.out.all ((HBW.out _ HC7).trans (hbx.mono (HBW.out _ HC7).size)))
              rw [hsA] at m2
              have hms := mails_eq _ _ _ 1 1 _ m1 m2 (show 1 ≤ maxLen by unfold maxLen; omega)
              have HBX : Hid _ := hbx
              have HC7' : Hid _ := HC7
              have r0 := cell_later hbA d0
              have r1 := cell_later hbA d1
              have r2 := cell_later hbA d2
              have r3 := cell_later hbA d3
              clear g1 g2 g1' m1 m2 hbA hbB hbx HC7 HY7
              go_wp2_with (go_at_call 22; refine hms.mono ?_; clear hms; rintro e w8 ⟨rfl, hb8⟩)
              go_meet
              case rel =>
                have h9 := HC7'.out.trans (HBX.out.mono HC7'.out.size)
                exact h9.trans (hb8.mono h9.size)
            · obtain rfl : b6 = false := by rw [← HB6E.out]; exact decide_eq_false e0
              clear e0
              go_wp2_with fail
              go_meet
              case rel => exact HC6.out
          case rest =>
            have HW9 : Hid (Below w.heap.size w _) := HBW.out _ hcut
            clear HC6 HB6E HE HT HC0 HB0 HBW HX HM
            obtain ⟨W9, hW9⟩ : ∃ W9, W9 = wc := ⟨_, rfl⟩
            rw [← hW9] at HW9 ⊢
            clear hW9 hcut
            have hbl := boxMails a l ca W9 (HL.out.all HW9.out) HLM.out
            obtain ⟨EL, hEL⟩ : ∃ E, bxf (l.map mlb) = E := ⟨_, rfl⟩
            obtain ⟨TL, hTL⟩ : ∃ T, bxT (l.map mlb) = T := ⟨_, rfl⟩
            rw [hEL, hTL, HN.out] at hbl
            by_cases e1 : EL = 0
            case neg =>
              rw [errV_not e1] at hbl
              clear e1 hEL hTL
              go_wp2_with (go_at_call 24; refine hbl.mono ?_; clear hbl; rintro e w10 ⟨rfl, hb10⟩)
              go_ret
              exact ⟨rfl, HW9.out.trans (hb10.mono HW9.out.size)⟩
            rw [e1] at hEL hbl
            obtain ⟨hn16, hTs, hTb, hTd, hTok⟩ := bxT_len hEL
            rw [hTL] at hTs hTb hTd
            rw [HN.out] at hn16
            rw [errV_zero] at hbl
            have hop := fun W (h : Below w.heap.size w W) => openOwn TL l W (by omega) hTb (HG.out.below h)
            have hml := fun (a1 : Option Addr) (c1 : Nat) (W : World) (h1 : Mls W a1 l) (h : Below w.heap.size w W) => mails_eq a1 a l c1 ca W h1 (HL.out.all h) HLM.out
            have hbk := fun W (h : Below w.heap.size w W) => boxMails b k cb W (HK.out.all h) HKM.out
            obtain ⟨EK, hEK⟩ : ∃ E, bxf (k.map mlb) = E := ⟨_, rfl⟩
            obtain ⟨TK, hTK⟩ : ∃ T, bxT (k.map mlb) = T := ⟨_, rfl⟩
            simp only [hEK, hTK, HQ.out] at hbk
            simp only [HN.out] at hop hml
            have HTD : Hid (TL.data.toList = btx (l.map mlb)) := hTd
            have HTOK : Hid (∀ m ∈ l.map mlb, mlOk m) := hTok
            clear e1 hEL hTL hTb hTd hTok
            go_upto_region 24 with (first
              | (go_at_call 24; refine hbl.mono ?_; clear hbl; rintro e w10 ⟨rfl, hb10⟩; replace hb10 := HW9.out.trans (hb10.mono HW9.out.size); replace hop := hop w10 hb10)
              | (go_at_call 26; refine hop.mono ?_; clear hop; rintro e w11 ⟨a11, c11, rfl, hm11, hb11⟩; replace hb11 := hb10.trans (hb11.mono hb10.size); replace hml := hml a11 c11 w11 hm11 hb11)
              | (go_at_call 22; refine hml.mono ?_; clear hml; rintro e w12 ⟨rfl, hb12⟩))
            have HW12 : Hid (Below w.heap.size w w12) := hb11.trans (hb12.mono hb11.size)
            clear hb10 hb11 hb12 hm11
            replace hbk := hbk w12 HW12.out
            have ways : (EK ≠ 0) ∨ (EK = 0 ∧ 16 < n + q) ∨ (EK = 0 ∧ ¬ 16 < n + q) := by omega
            rcases ways with e2 | ⟨e2, h17⟩ | ⟨e2, h17⟩
            · rw [errV_not e2] at hbk
              clear e2 hEK hTK
              go_wp2_with (go_at_call 24; refine hbk.mono ?_; clear hbk; rintro e w13 ⟨rfl, hb13⟩)
              go_ret
              exact ⟨rfl, HW12.out.trans (hb13.mono HW12.out.size)⟩
            · have hq16 := (bxT_len (hEK.trans e2)).1
              rw [HQ.out] at hq16
              rw [e2, errV_zero] at hbk
              have h17' : (16 : Int) < (n : Int) + (q : Int) := by omega
              clear e2 hEK hTK h17
              go_wp2_with (go_at_call 24; refine hbk.mono ?_; clear hbk; rintro e w13 ⟨rfl, hb13⟩)
              go_ret
              exact ⟨rfl, HW12.out.trans (hb13.mono HW12.out.size)⟩
            · obtain ⟨hq16, hUs, hUb, hUd, hUok⟩ := bxT_len (hEK.trans e2)
              rw [hTK] at hUs hUb hUd
              rw [HQ.out] at hq16
              rw [e2, errV_zero] at hbk
              have h17' : ¬ (16 : Int) < (n : Int) + (q : Int) := by omega
              have hVb : bof 16 (TL ++ TK).data.toList = some ((l ++ k).map mlb) := by
                rw [app_data, HTD.out, hUd, ← btx_app, ← List.map_append]
                refine bof_iff.2 ⟨rfl, ?_, ?_⟩
                · rw [List.length_map, List.length_append, HN.out, HQ.out]; omega
                · intro m hm
                  rw [List.map_append] at hm
                  rcases List.mem_append.1 hm with hm | hm
                  · exact HTOK.out m hm
                  · exact hUok m hm
              have hop2 := fun W (h : Below w.heap.size w W) => openOwn (TL ++ TK) (l ++ k) W (by rw [ByteArray.size_append]; omega) hVb (HG.out.below h)
              have hlk : (l ++ k).length = n + q := by rw [List.length_append, HN.out, HQ.out]
              have hml2 := fun (a1 a2 : Option Addr) (c1 c2 : Nat) (W : World) (h1 : Mls W a1 (l ++ k)) (h2 : Mls W a2 (l ++ k)) => mails_eq a1 a2 (l ++ k) c1 c2 W h1 h2 (by rw [hlk]; unfold maxLen; omega)
              simp only [hlk] at hop2 hml2
              have HAP : Hid (∀ W, Below w.heap.size w W → ∃ a1 c1 W1 a2 c2 W2, (Builtin.append_ #[52, 52] 52 #[.slice none 0 0, .slice a n ca]).run Tryd.prog W = .ok (.slice a1 n c1) W1 ∧ (Builtin.append_ #[52, 52] 52 #[.slice a1 n c1, .slice b q cb]).run Tryd.prog W1 = .ok (.slice a2 (n + q) c2) W2 ∧ Mls W2 a2 (l ++ k) ∧ Below W.heap.size W W2 ∧ Below w.heap.size w W2) := by
                intro W hW
                have hn0 : ∀ {a : Option Addr} {l : List Mb} {ca : Nat}, Mls w a l → (a = none → ca = 0) → (a = none → ca = 0 ∧ l = []) ∧ ∀ x, a = some x → l = [] ∨ ∃ g o, x = ⟨g, o, none⟩ := by
                  intro a l ca h1 h2
                  cases l with
                  | nil => exact ⟨fun e => ⟨h2 e, rfl⟩, fun _ _ => .inl rfl⟩
                  | cons y r =>
                    obtain ⟨g, o, e⟩ := h1.addr (i := 0) (by simp)
                    subst e
                    exact ⟨fun e => (by cases e), fun x e => .inr ⟨g, o, (Option.some.inj e).symm⟩⟩
                obtain ⟨p1, p2⟩ := hn0 HL.out HLA.out
                obtain ⟨p3, p4⟩ := hn0 HK.out HKB.out
                obtain ⟨a1, c1, W1, ys, h1, h2, h3, h4⟩ := app_mls (l := []) (World.ownsRow_nil W W.heap.size 51 4) (Mvs.nil w) HL.out p1 p2 hW (Nat.le_refl _) (by rw [HN.out]; simp; omega) 52
                rw [List.nil_append] at h1 h2 h3
                have hW1 := hW.trans (h4.mono hW.size)
                obtain ⟨a2, c2, W2, zs, g1, g2, g3, g4⟩ := app_mls h2 h3 HK.out p3 p4 hW1 h4.size (by rw [HN.out, HQ.out]; omega) 52
                have hW2 := hW1.trans (g4.mono hW.size)
                have hm := mls_own2 g2 g3 hW2
                rw [HN.out] at h1 g1
                rw [HQ.out, hlk] at g1
                exact ⟨a1, c1, W1, a2, c2, W2, h1, g1, hm, h4.trans g4, hW2⟩
              clear e2 hEK hTK h17 hUb hUd hUok hVb hlk HTD HTOK HL HK HLM HKM HLA HKB HN HQ HG
              go_wp2_with (first
                | (at_builtin; refine Lib.wpList_append_run _ rfl _ _ _ _ rfl _ _ rfl rfl _ _ hap1 ?_)
                | (at_builtin; refine Lib.wpList_append_run _ rfl _ _ _ _ rfl _ _ rfl rfl _ _ hap2 ?_)
                | (go_at_call 24; refine hbk.mono ?_; clear hbk; rintro e w13 ⟨rfl, hb13⟩; replace hb13 := HW12.out.trans (hb13.mono HW12.out.size); replace hop2 := hop2 w13 hb13)
                | (go_at_call 26; refine hop2.mono ?_; clear hop2; rintro e w14 ⟨a14, c14, rfl, hm14, hb14⟩; replace hb14 := hb13.trans (hb14.mono hb13.size); obtain ⟨a15, c15, W15, a16, c16, W16, hap1, hap2, hm16, hb1416, hb16⟩ := HAP.out w14 hb14)
                | (go_at_call 22; refine (hml2 a14 a16 c14 c16 W16 (hm14.all hb1416) hm16).mono ?_; clear hml2; rintro e w17 ⟨rfl, hb17⟩))
              go_ret
              exact ⟨rfl, hb16.trans (hb17.mono hb16.size)⟩

end Go.Proofs.YtppmpofdhkgjmafDoor
