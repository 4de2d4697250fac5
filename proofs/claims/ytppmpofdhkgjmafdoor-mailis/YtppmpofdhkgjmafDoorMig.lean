/-
  Walk of the law MailIs, what the program's own functions answer given.
-/
import Derived.Test.YtppmpofdhkgjmafDoorMai
import Derived.Test.YtppmpofdhkgjmafDoorMrx

namespace Go.Proofs.YtppmpofdhkgjmafDoor
open Go.RowKit Dist

/-- What mail.Check, Print, Parse, Box, Open answer. -/
def CkC : Prop := ∀ (f s d : ByteArray) (x : List UInt8) (am : Option Addr) (cm : Nat) (W : World), Bya W am x cm → Calls Tryd.prog 17 #[.agg #[.string f, .string s, .string d, .slice am x.length cm]] W fun e w' => e = .returned (errV (mlf (mlb (f, s, d, x)))) ∧ Below W.heap.size W w'
def PrC : Prop := ∀ (f s d : ByteArray) (x : List UInt8) (am : Option Addr) (cm : Nat) (W : World), Bya W am x cm → Calls Tryd.prog 19 #[.agg #[.string f, .string s, .string d, .slice am x.length cm]] W fun e w' => e = .returned (.tuple #[.string (prT (mlb (f, s, d, x))), errV (mlf (mlb (f, s, d, x)))]) ∧ Below W.heap.size W w'
def PaC : Prop := ∀ (s : ByteArray) (W : World), s.size ≤ 140737488355328 → Calls Tryd.prog 21 #[.string s] W fun e w' => ∃ a cap, e = .returned (.tuple #[.agg #[.string (moM (mof s.data.toList)).1, .string (moM (mof s.data.toList)).2.1, .string (moM (mof s.data.toList)).2.2.1, .slice a (moM (mof s.data.toList)).2.2.2.length cap], errV (moE (mof s.data.toList))]) ∧ Bya w' a (moM (mof s.data.toList)).2.2.2 cap ∧ Below W.heap.size W w'
def BxC : Prop := ∀ (a : Option Addr) (l : List Mb) (ca : Nat) (W : World), Mls W a l → l.length ≤ maxLen → Calls Tryd.prog 24 #[.slice a l.length ca] W fun e w' => e = .returned (.tuple #[.string (bxT (l.map mlb)), errV (bxf (l.map mlb))]) ∧ Below W.heap.size W w'
def OpC : Prop := ∀ (s : ByteArray) (W : World), s.size ≤ 4000000000 → Gm W → Calls Tryd.prog 26 #[.string s] W fun e w' => ∃ a cap, e = .returned (.tuple #[.slice a (boL (bof 16 s.data.toList)).length cap, errV (boE (bof 16 s.data.toList))]) ∧ Mls w' a (boL (bof 16 s.data.toList)) ∧ Below W.heap.size W w'

set_option maxRecDepth 100000 in
set_option maxHeartbeats 2000000 in
theorem mailIs_out (CK : CkC) (f s0 d : ByteArray) (x : List UInt8) (am : Option Addr) (cm : Nat) (s : ByteArray) (a : Option Addr) (n ca : Nat) (t : ByteArray) (w : World) (hx : Bya w am x cm) (hg : TypeLaid w)
    (h : (1000 < x.length ∧ x.length ≤ 40000) ∨ 4000 < s.size ∨ 6000 < t.size) :
    Calls Tryd.prog 6 #[.agg #[.string f, .string s0, .string d, .slice am x.length cm], .string s, .slice a n ca, .string t] w fun e w' => e = .returned (.bool true) ∧ Below w.heap.size w w' := by
  have hb0 := below_alloc w (.cells #[.string f, .string s0, .string d, .slice am x.length cm] 51)
  have hc0 := fun W (h : Below (w.alloc (.cells #[.string f, .string s0, .string d, .slice am x.length cm] 51)).heap.size (w.alloc (.cells #[.string f, .string s0, .string d, .slice am x.length cm] 51)) W) => cells4_later h
  have hmf := mailFault f s0 d x am cm
  have hck := fun W (h : Below w.heap.size w W) => CK f s0 d x am cm W (hx.all h)
  obtain ⟨E, hE⟩ : ∃ E, mlf (mlb (f, s0, d, x)) = E := ⟨_, rfl⟩
  rw [hE] at hmf
  simp only [hE] at hck
  have her := fun W (h : Below w.heap.size w W) => error_same E W (hg.below h)
  obtain ⟨V, hV⟩ : ∃ V, errV E = V := ⟨_, rfl⟩
  simp only [hV] at hck her
  obtain ⟨m, hm⟩ : ∃ m, x.length = m := ⟨_, rfl⟩
  simp only [hm] at hb0 hc0 hmf hck h ⊢
  clear hE hV hm hx hg CK
  rcases (by omega : (1000 < m ∧ m ≤ 40000) ∨ (¬ 1000 < m ∧ 4000 < s.size) ∨ (¬ 1000 < m ∧ ¬ 4000 < s.size ∧ 6000 < t.size) ∨ (1000 < m ∧ ¬ m ≤ 40000 ∧ 4000 < s.size) ∨ (1000 < m ∧ ¬ m ≤ 40000 ∧ ¬ 4000 < s.size ∧ 6000 < t.size)) with ⟨h1, h2⟩ | ⟨h1, h3⟩ | ⟨h1, h3, h4⟩ | ⟨h1, h2, h3⟩ | ⟨h1, h2, h3, h4⟩
  all_goals
    clear h
    go_enter Tryd.func6, Tryd.ntmps6
    go_wp2_with (first
      | (go_at_call 16; refine (hmf _).mono ?_; clear hmf; rintro e w1 ⟨rfl, hb1⟩; obtain ⟨d0, d1, d2, d3⟩ := hc0 w1 hb1; have hb01 := hb0.trans (hb1.mono hb0.size); replace hck := hck w1 hb01)
      | (go_at_call 17; refine hck.mono ?_; clear hck; rintro e w2 ⟨rfl, hb2⟩; obtain ⟨d0, d1, d2, d3⟩ := hc0 w2 (hb1.trans (hb2.mono hb1.size)); have hb02 := hb01.trans (hb2.mono hb01.size); replace her := her w2 hb02)
      | (go_at_call 13; refine her.mono ?_; clear her; rintro e w3 ⟨rfl, hb3⟩; obtain ⟨d0, d1, d2, d3⟩ := hc0 w3 (hb1.trans ((hb2.trans (hb3.mono hb2.size)).mono hb1.size))))
    go_ret
    exact ⟨rfl, hb02.trans (hb3.mono hb02.size)⟩

set_option maxRecDepth 100000 in
set_option maxHeartbeats 8000000 in
theorem mailIs_in (CK : CkC) (PR : PrC) (PA : PaC) (BX : BxC) (OP : OpC) (f s0 d : ByteArray) (x : List UInt8) (am : Option Addr) (cm : Nat) (s : ByteArray) (a : Option Addr) (l : List Mb) (ca : Nat) (t : ByteArray) (w : World) (hx : Bya w am x cm) (hl : Mls w a l) (hlm : l.length ≤ maxLen) (hg : TypeLaid w) (hgm : Gm w)
    (h1 : ¬ (1000 < x.length ∧ x.length ≤ 40000)) (h2 : ¬ 4000 < s.size) (h3 : ¬ 6000 < t.size) :
    Calls Tryd.prog 6 #[.agg #[.string f, .string s0, .string d, .slice am x.length cm], .string s, .slice a l.length ca, .string t] w fun e w' => e = .returned (.bool true) ∧ Below w.heap.size w w' := by
  have hb0 := below_alloc w (.cells #[.string f, .string s0, .string d, .slice am x.length cm] 51)
  have hc0 := fun W (h : Below (w.alloc (.cells #[.string f, .string s0, .string d, .slice am x.length cm] 51)).heap.size (w.alloc (.cells #[.string f, .string s0, .string d, .slice am x.length cm] 51)) W) => cells4_later h
  have hmf := mailFault f s0 d x am cm
  have hck := fun W (h : Below w.heap.size w W) => CK f s0 d x am cm W (hx.all h)
  have hpr := fun W (h : Below w.heap.size w W) => PR f s0 d x am cm W (hx.all h)
  have hmt := fun W (h : Below w.heap.size w W) (ok : mlOk (mlb (f, s0, d, x))) => mailText f s0 d x am cm W (hx.all h) ok
  obtain ⟨E, hE⟩ : ∃ E, mlf (mlb (f, s0, d, x)) = E := ⟨_, rfl⟩
  obtain ⟨U, hU⟩ : ∃ U, prT (mlb (f, s0, d, x)) = U := ⟨_, rfl⟩
  obtain ⟨T, hT⟩ : ∃ T : ByteArray, (⟨(mtx (mlb (f, s0, d, x))).toArray⟩ : ByteArray) = T := ⟨_, rfl⟩
  have HU : Hid ((E = 0 → U = T) ∧ (E ≠ 0 → U = ⟨#[]⟩)) := by
    refine ⟨fun e => ?_, fun e => ?_⟩
    · rw [← hU, ← hT]; exact if_pos (hE.trans e)
    · rw [← hU]; exact if_neg (fun h => e (hE.symm.trans h))
  have HOK : Hid (E = 0 → mlOk (mlb (f, s0, d, x))) := fun e => mlf_0.1 (hE.trans e)
  rw [hE] at hmf
  simp only [hE] at hck hpr
  simp only [hU] at hpr
  simp only [hT] at hmt
  have her := fun W (h : Below w.heap.size w W) => error_same E W (hg.below h)
  obtain ⟨V, hV⟩ : ∃ V, errV E = V := ⟨_, rfl⟩
  simp only [hV] at hck her hpr
  obtain ⟨m, hm⟩ : ∃ m, x.length = m := ⟨_, rfl⟩
  simp only [hm] at hb0 hc0 hmf hck hpr hmt h1 ⊢
  obtain ⟨n, hn⟩ : ∃ n, l.length = n := ⟨_, rfl⟩
  rw [hn] at hlm ⊢
  have HN : Hid (l.length = n) := hn
  have HL : Hid (Mls w a l) := hl
  have HG : Hid (TypeLaid w) := hg
  have HGM : Hid (Gm w) := hgm
  have her1 := her
  have h2' : ¬ (4000 : Int) < (s.size : Int) := by omega
  have h3' : ¬ (6000 : Int) < (t.size : Int) := by omega
  have HPA : Hid PaC := PA
  have HBX : Hid BxC := BX
  have HOP : Hid OpC := OP
  clear hE hU hT hV hm hx hg hgm hl hn CK PR PA BX OP
  have HX : Hid (∀ W, Below (w.alloc (.cells #[.string f, .string s0, .string d, .slice am m cm] 51)).heap.size (w.alloc (.cells #[.string f, .string s0, .string d, .slice am m cm] 51)) W → Below w.heap.size w W) := fun W h => hb0.trans (h.mono hb0.size)
  go_enter Tryd.func6, Tryd.ntmps6
  go_upto_region 4 with (first
    | (go_at_call 16; refine (hmf _).mono ?_; clear hmf; rintro e w1 ⟨rfl, hb1⟩; obtain ⟨d0, d1, d2, d3⟩ := hc0 w1 hb1; have hb01 := hb0.trans (hb1.mono hb0.size); replace hck := hck w1 hb01)
    | (go_at_call 17; refine hck.mono ?_; clear hck; rintro e w2 ⟨rfl, hb2⟩; obtain ⟨d0, d1, d2, d3⟩ := hc0 w2 (hb1.trans (hb2.mono hb1.size)); have hb02 := hb01.trans (hb2.mono hb01.size); replace her := her w2 hb02)
    | (go_at_call 13; refine her.mono ?_; clear her; rintro e w3 ⟨rfl, hb3⟩; have hb13 := hb1.trans ((hb2.trans (hb3.mono hb2.size)).mono hb1.size); obtain ⟨d0, d1, d2, d3⟩ := hc0 w3 hb13))
  have HB3 : Hid (Below (w.alloc (.cells #[.string f, .string s0, .string d, .slice am m cm] 51)).heap.size (w.alloc (.cells #[.string f, .string s0, .string d, .slice am m cm] 51)) w3) := hb13
  clear hb1 hb2 hb3 hb01 hb02 hb13 hb0
  go_cut [46] from 27 (fun u wx => u = .bool false ∧ wx = w3)
  case first =>
    rcases (by omega : (¬ 1000 < m) ∨ (1000 < m ∧ ¬ m ≤ 40000)) with h4 | ⟨h4, h5⟩
    all_goals
      go_wp2_with fail
      go_meet
      case rel => exact ⟨by simp; omega, rfl⟩
  case rest =>
    obtain ⟨rfl, rfl⟩ := hcut
    go_upto_if 49 with fail
    go_cut [11] from 21 (fun u wx => u = .string U ∧ Hid (Below (w.alloc (.cells #[.string f, .string s0, .string d, .slice am m cm] 51)).heap.size (w.alloc (.cells #[.string f, .string s0, .string d, .slice am m cm] 51)) wx))
    case first =>
      by_cases e0 : E = 0
      · have hq : (E == 0) = true := beq_iff_eq.2 e0
        have hm4 := hmt _ (HX.out _ HB3.out) (HOK.out e0)
        have hut := HU.out.1 e0
        clear e0 hmt
        go_wp2_with (go_at_call 18; refine hm4.mono ?_; clear hm4; rintro e w4 ⟨rfl, hb4⟩)
        go_meet
        case rel => exact ⟨by rw [hut], HB3.out.trans (hb4.mono HB3.out.size)⟩
      · have hq : (E == 0) = false := beq_eq_false_iff_ne.2 e0
        have hut := HU.out.2 e0
        clear e0 hmt
        go_wp2_with fail
        go_meet
        case rel => exact ⟨by rw [hut], HB3.out⟩
    case rest =>
      obtain ⟨rfl, HB4⟩ := hcut
      clear hmt HU HOK HB3
      clear d0 d1 d2 d3
      obtain ⟨d0, d1, d2, d3⟩ := hc0 _ HB4.out
      have hUU : (U.toList == U.toList) = true := beq_self_eq_true _
      have hp4 := hpr _ (HX.out _ HB4.out)
      have HBW : Hid (Below w.heap.size w wc) := HX.out _ HB4.out
      obtain ⟨M, hM⟩ : ∃ M, moM (mof s.data.toList) = M := ⟨_, rfl⟩
      obtain ⟨F, S, D, X⟩ := M
      obtain ⟨E2, hE2⟩ : ∃ E2, moE (mof s.data.toList) = E2 := ⟨_, rfl⟩
      have hmo := mailOfU s (by omega)
      have hpa := fun W => HPA.out s W (by omega)
      rw [hM, hE2] at hmo
      rw [hM, hE2] at hpa
      have he2 := fun W (h : Below w.heap.size w W) => error_same E2 W (HG.out.below h)
      obtain ⟨V2, hV2⟩ : ∃ V2, errV E2 = V2 := ⟨_, rfl⟩
      simp only [hV2] at hpa he2
      clear hc0 hpr HB4 HX hM hE2 hV2 h1
      go_upto_region 12 with (first
        | (go_at_call 19; refine hp4.mono ?_; clear hp4; rintro e w5 ⟨rfl, hb5⟩; replace hb5 := HBW.out.trans (hb5.mono HBW.out.size); replace her1 := her1 w5 hb5)
        | (go_at_call 13; refine her1.mono ?_; clear her1; rintro e w6 ⟨rfl, hb6⟩; replace hb6 := hb5.trans (hb6.mono hb5.size)))
      clear d0 d1 d2 d3 hUU
      go_upto_region 13 with (go_at_call 20; refine (hmo _).mono ?_; clear hmo; rintro e w7 ⟨a7, c7, rfl, hy7, hb7⟩; replace hb7 := hb6.trans (hb7.mono hb6.size))
      have hd7 := cells4_later (w := w7) (x := .string F) (y := .string S) (z := .string D) (u := .slice a7 X.length c7) (t := 51) (Below.refl _ (w7.alloc (.cells #[.string F, .string S, .string D, .slice a7 X.length c7] 51)))
      have hba := below_alloc w7 (.cells #[.string F, .string S, .string D, .slice a7 X.length c7] 51)
      have HB8 : Hid (Below w.heap.size w (w7.alloc (.cells #[.string F, .string S, .string D, .slice a7 X.length c7] 51))) := hb7.trans (hba.mono hb7.size)
      have HY8 : Hid (Bya (w7.alloc (.cells #[.string F, .string S, .string D, .slice a7 X.length c7] 51)) a7 X c7) := hy7.all hba
      clear hba hy7 hb7 hb5 hb6
      generalize w7.alloc (.cells #[.string F, .string S, .string D, .slice a7 X.length c7] 51) = W8 at HB8 HY8 hd7 ⊢
      generalize w7.heap.size = B7 at hd7 ⊢
      go_upto_region 14 with (go_at_call 21; refine (hpa _).mono ?_; clear hpa; rintro e w9 ⟨a9, c9, rfl, hy9, hb9⟩; replace HY8 : Hid (Bya w9 a7 X c7) := HY8.out.all hb9; replace hd7 := And.intro (cell_later hb9 hd7.1) (And.intro (cell_later hb9 hd7.2.1) (And.intro (cell_later hb9 hd7.2.2.1) (cell_later hb9 hd7.2.2.2))); replace hb9 := HB8.out.trans (hb9.mono HB8.out.size))
      have hd9 := cells4_later (w := w9) (x := .string F) (y := .string S) (z := .string D) (u := .slice a9 X.length c9) (t := 51) (Below.refl _ (w9.alloc (.cells #[.string F, .string S, .string D, .slice a9 X.length c9] 51)))
      have hba := below_alloc w9 (.cells #[.string F, .string S, .string D, .slice a9 X.length c9] 51)
      have HB10 : Hid (Below w.heap.size w (w9.alloc (.cells #[.string F, .string S, .string D, .slice a9 X.length c9] 51))) := hb9.trans (hba.mono hb9.size)
      have HY10 : Hid (Bya (w9.alloc (.cells #[.string F, .string S, .string D, .slice a9 X.length c9] 51)) a9 X c9) := hy9.all hba
      replace HY8 : Hid (Bya (w9.alloc (.cells #[.string F, .string S, .string D, .slice a9 X.length c9] 51)) a7 X c7) := HY8.out.all hba
      replace hd7 := And.intro (cell_later hba hd7.1) (And.intro (cell_later hba hd7.2.1) (And.intro (cell_later hba hd7.2.2.1) (cell_later hba hd7.2.2.2)))
      clear hba hy9 hb9 HB8
      generalize w9.alloc (.cells #[.string F, .string S, .string D, .slice a9 X.length c9] 51) = W10 at HB10 HY10 HY8 hd7 hd9 ⊢
      generalize w9.heap.size = B9 at hd9 ⊢
      replace he2 := he2 _ HB10.out
      go_upto_region 15 with (go_at_call 13; refine he2.mono ?_; clear he2; rintro e w11 ⟨rfl, hb11⟩; obtain ⟨p0, p1, p2, p3⟩ := hd7; obtain ⟨q0, q1, q2, q3⟩ := hd9; replace p0 := cell_later hb11 p0; replace p1 := cell_later hb11 p1; replace p2 := cell_later hb11 p2; replace p3 := cell_later hb11 p3; replace q0 := cell_later hb11 q0; replace q1 := cell_later hb11 q1; replace q2 := cell_later hb11 q2; replace q3 := cell_later hb11 q3)
      have hbA := below_alloc w11 (.cells #[.string F, .string S, .string D, .slice a9 X.length c9] 51)
      have hbB := below_alloc (w11.alloc (.cells #[.string F, .string S, .string D, .slice a9 X.length c9] 51)) (.cells #[.string F, .string S, .string D, .slice a7 X.length c7] 51)
      have hsA : (w11.alloc (.cells #[.string F, .string S, .string D, .slice a9 X.length c9] 51)).heap.size = w11.heap.size + 1 := by simp
      have HB12 : Hid (Below w.heap.size w ((w11.alloc (.cells #[.string F, .string S, .string D, .slice a9 X.length c9] 51)).alloc (.cells #[.string F, .string S, .string D, .slice a7 X.length c7] 51))) := HB10.out.trans ((hb11.trans ((hbA.trans (hbB.mono hbA.size)).mono hb11.size)).mono HB10.out.size)
      have g1 := cells4_later (w := w11) (x := .string F) (y := .string S) (z := .string D) (u := .slice a9 X.length c9) (t := 51) (w1 := (w11.alloc (.cells #[.string F, .string S, .string D, .slice a9 X.length c9] 51)).alloc (.cells #[.string F, .string S, .string D, .slice a7 X.length c7] 51)) hbB
      have g2 := cells4_later (w := w11.alloc (.cells #[.string F, .string S, .string D, .slice a9 X.length c9] 51)) (x := .string F) (y := .string S) (z := .string D) (u := .slice a7 X.length c7) (t := 51) (Below.refl _ ((w11.alloc (.cells #[.string F, .string S, .string D, .slice a9 X.length c9] 51)).alloc (.cells #[.string F, .string S, .string D, .slice a7 X.length c7] 51)))
      have m1 : Mls ((w11.alloc (.cells #[.string F, .string S, .string D, .slice a9 X.length c9] 51)).alloc (.cells #[.string F, .string S, .string D, .slice a7 X.length c7] 51)) (some ⟨w11.heap.size, 0, none⟩) [(F, S, D, X)] := mls_one g1.1 g1.2.1 g1.2.2.1 g1.2.2.2 (((HY10.out.all hb11).all hbA).all hbB)
      have m2 : Mls ((w11.alloc (.cells #[.string F, .string S, .string D, .slice a9 X.length c9] 51)).alloc (.cells #[.string F, .string S, .string D, .slice a7 X.length c7] 51)) (some ⟨(w11.alloc (.cells #[.string F, .string S, .string D, .slice a9 X.length c9] 51)).heap.size, 0, none⟩) [(F, S, D, X)] := mls_one g2.1 g2.2.1 g2.2.2.1 g2.2.2.2 (((HY8.out.all hb11).all hbA).all hbB)
      rw [hsA] at m2
      have hms := mails_eq _ _ _ 1 1 _ m1 m2 (show 1 ≤ maxLen by unfold maxLen; omega)
      have r0 := cell_later hbA p0
      have r1 := cell_later hbA p1
      have r2 := cell_later hbA p2
      have r3 := cell_later hbA p3
      clear g1 g2 m1 m2 hbA hbB hb11 HY8 HY10 HB10 p0 p1 p2 p3
      go_upto_region 18 with (go_at_call 22; refine hms.mono ?_; clear hms; rintro e w13 ⟨rfl, hb13⟩)
      have HB13 : Hid (Below w.heap.size w w13) := HB12.out.trans (hb13.mono HB12.out.size)
      clear hb13 HB12 hsA q0 q1 q2 q3 r0 r1 r2 r3
      obtain ⟨EB, hEB⟩ : ∃ EB, bxf (l.map mlb) = EB := ⟨_, rfl⟩
      have HEB : Hid (bxf (l.map mlb) = EB) := hEB
      obtain ⟨I0, hI0⟩ : ∃ I0 : Int, (if 16 < n then 3 else 0) = I0 := ⟨_, rfl⟩
      have HI0 : Hid ((if 16 < n then (3 : Int) else 0) = I0) := hI0
      clear hEB hI0
      go_upto_if 97 with fail
      go_cut [9] from 21 (fun u wx => u = .int .i64 I0 ∧ wx = w13)
      case first =>
        by_cases h16 : 16 < n
        · have h16' : (16 : Int) < (n : Int) := by omega
          have h17 := HI0.out
          rw [if_pos h16] at h17
          subst h17
          go_wp2_with fail
          go_meet
          case rel => exact ⟨rfl, rfl⟩
        · have h16' : ¬ (16 : Int) < (n : Int) := by omega
          have h17 := HI0.out
          rw [if_neg h16] at h17
          subst h17
          go_wp2_with fail
          go_meet
          case rel => exact ⟨rfl, rfl⟩
      case rest =>
        obtain ⟨rfl, rfl⟩ := hcut
        go_wp2_with fail
        go_loopw [9, 18] (fun ev i wx => ∃ (k : Nat) (e : Int), k ≤ n ∧ i = .int .i64 k ∧ ev = .int .i64 e ∧ Hid (Below w.heap.size w wx) ∧ Hid ((e = 0 ∧ n ≤ 16 ∧ ∀ m ∈ l.take k, mlf (mlb m) = 0) ∨ (e ≠ 0 ∧ e = EB))) (fun _ i _ => n - (intOf i).toNat)
        case atStart =>
          refine ⟨0, I0, Nat.zero_le _, rfl, rfl, HB13.out, ?_⟩
          have h1 := HI0.out
          by_cases h16 : 16 < n
          · rw [if_pos h16] at h1
            refine .inr ⟨by omega, ?_⟩
            rw [← HEB.out, ← h1]
            unfold bxf
            rw [if_pos (by rw [List.length_map, HN.out]; exact h16)]
          · rw [if_neg h16] at h1
            exact .inl ⟨h1.symm, by omega, fun m hm => absurd hm (by simp)⟩
        case round =>
          obtain ⟨k, e, hk, rfl, rfl, HBR, HINV⟩ := hrel
          by_cases hgo : k < n ∧ e = 0
          · obtain ⟨h5, rfl⟩ := hgo
            obtain ⟨h6, h7⟩ : n ≤ 16 ∧ ∀ m ∈ l.take k, mlf (mlb m) = 0 := by
              rcases HINV.out with ⟨_, h2, h3⟩ | ⟨h2, _⟩
              · exact ⟨h2, h3⟩
              · exact absurd rfl h2
            have hkl : k < l.length := by rw [HN.out]; exact h5
            have h5' : (k : Int) < (n : Int) := by omega
            have hl2 := HL.out.all HBR.out
            obtain ⟨b1, o1, rfl⟩ := HL.out.addr hkl
            obtain ⟨am1, cm1, z0, z1, z2, z3, hy1⟩ := hl2.at hkl
            have HNX : Hid (mlf (mlb (l.getD k mz)) = 0 → ∀ m ∈ l.take (k + 1), mlf (mlb m) = 0) := fun h m hm => by
              rw [take_snoc hkl] at hm
              rcases List.mem_append.1 hm with hm | hm
              · exact h7 m hm
              · rw [List.mem_singleton] at hm; rw [hm]; exact h
            have HNF : Hid (mlf (mlb (l.getD k mz)) ≠ 0 → mlf (mlb (l.getD k mz)) = EB) := fun h => by
              rw [← HEB.out]
              unfold bxf
              rw [if_neg (by rw [List.length_map, HN.out]; omega)]
              exact (fsf_at l k hkl h7 h).symm
            obtain ⟨M1, hM1⟩ : ∃ M1, l.getD k mz = M1 := ⟨_, rfl⟩
            rw [hM1] at z0 z1 z2 z3 hy1 HNX HNF
            obtain ⟨F1, S1, D1, X1⟩ := M1
            simp only at z0 z1 z2 z3 hy1
            have hf1 := mailFault F1 S1 D1 X1 am1 cm1 wr
            obtain ⟨e1, he1⟩ : ∃ e1, mlf (mlb (F1, S1, D1, X1)) = e1 := ⟨_, rfl⟩
            rw [he1] at hf1 HNX HNF
            obtain ⟨q1, hq1⟩ : ∃ q1, X1.length = q1 := ⟨_, rfl⟩
            rw [hq1] at z3 hf1
            clear h7 hkl hl2 hM1 hy1 he1 hq1 HINV
            by_cases hq : 300 < q1
            · have hq' : (300 : Int) < (q1 : Int) := by omega
              go_wp2
              go_ret
              exact ⟨rfl, HBR.out⟩
            · have hq' : ¬ (300 : Int) < (q1 : Int) := by omega
              go_wp2_with (go_at_call 16; refine hf1.mono ?_; clear hf1; rintro e w2 ⟨rfl, hb2⟩)
              go_roundw
              case rel =>
                refine ⟨k + 1, e1, by omega, by simp, rfl, HBR.out.trans (hb2.mono HBR.out.size), ?_⟩
                by_cases e0 : e1 = 0
                · exact .inl ⟨e0, h6, HNX.out e0⟩
                · exact .inr ⟨e0, HNF.out e0⟩
              case measure => simp [intOf]; omega
          · have HEE : e = EB := by
              rcases HINV.out with ⟨h1, h2, h3⟩ | ⟨_, h2⟩
              · have h5 : ¬ k < n := fun h => hgo ⟨h, h1⟩
                rw [List.take_of_length_le (by rw [HN.out]; omega)] at h3
                rw [h1, ← HEB.out]
                unfold bxf
                rw [if_neg (by rw [List.length_map, HN.out]; omega)]
                exact (fsf_0 (fun m hm => by obtain ⟨y, hy, rfl⟩ := List.mem_map.1 hm; exact h3 y hy)).symm
              · exact h2
            subst HEE
            have hbt := fun (h0 : e = 0) => boxText a l ca wr (HL.out.all HBR.out) (by
              have h1 := HEB.out
              rw [h0] at h1
              unfold bxf at h1
              rw [List.length_map] at h1
              split at h1
              · cases h1
              · omega) (by
              have h1 := HEB.out
              rw [h0] at h1
              unfold bxf at h1
              split at h1
              · cases h1
              · exact fsf_ok h1)
            obtain ⟨TB, hTB⟩ : ∃ TB : ByteArray, (⟨(btx (l.map mlb)).toArray⟩ : ByteArray) = TB := ⟨_, rfl⟩
            obtain ⟨UB, hUB⟩ : ∃ UB, bxT (l.map mlb) = UB := ⟨_, rfl⟩
            have HUB : Hid ((e = 0 → UB = TB) ∧ (e ≠ 0 → UB = ⟨#[]⟩)) := by
              refine ⟨fun h => ?_, fun h => ?_⟩
              · rw [← hUB, ← hTB]; exact if_pos (HEB.out.trans h)
              · rw [← hUB]; exact if_neg (fun x => h (HEB.out.symm.trans x))
            have hbx := fun W (h : Below w.heap.size w W) => HBX.out a l ca W (HL.out.all h) (by rw [HN.out]; exact hlm)
            obtain ⟨VB, hVB⟩ : ∃ VB, errV e = VB := ⟨_, rfl⟩
            have heb := fun W (h : Below w.heap.size w W) => error_same e W (HG.out.below h)
            simp only [hVB] at heb
            rw [hTB, HN.out] at hbt
            simp only [hUB, HN.out, HEB.out, hVB] at hbx
            obtain ⟨L, hL⟩ : ∃ L, boL (bof 16 t.data.toList) = L := ⟨_, rfl⟩
            have hLm : L.length ≤ maxLen := by
              rw [← hL]
              cases hb : bof 16 t.data.toList with
              | none => exact Nat.zero_le _
              | some q =>
                have := (btx_bof 16 _ _ hb).2.1
                show (q.map mbl).length ≤ maxLen
                rw [List.length_map]; unfold maxLen; omega
            obtain ⟨E4, hE4⟩ : ∃ E4, boE (bof 16 t.data.toList) = E4 := ⟨_, rfl⟩
            have hbo := boxOfU t (by omega)
            have hop := fun W (h : Below w.heap.size w W) => HOP.out t W (by omega) (HGM.out.below h)
            rw [hL, hE4] at hbo
            rw [hL, hE4] at hop
            have he4 := fun W (h : Below w.heap.size w W) => error_same E4 W (HG.out.below h)
            obtain ⟨V4, hV4⟩ : ∃ V4, errV E4 = V4 := ⟨_, rfl⟩
            simp only [hV4] at hop he4
            have hme := fun (a b : Option Addr) (ca cb : Nat) (W : World) (h1 : Mls W a L) (h2 : Mls W b L) => mails_eq a b L ca cb W h1 h2 hLm
            obtain ⟨nL, hnL⟩ : ∃ nL, L.length = nL := ⟨_, rfl⟩
            simp only [hnL] at hbo hop hme
            have hUU : (UB.toList == UB.toList) = true := beq_self_eq_true _
            have hwy : (k < n ∧ (e == 0) = false) ∨ ¬ k < n := by
              by_cases h1 : k < n
              · exact .inl ⟨h1, beq_eq_false_iff_ne.2 (fun h => hgo ⟨h1, h⟩)⟩
              · exact .inr h1
            clear hTB hUB hVB hL hE4 hV4 hLm hnL hgo HINV HEB HN HG HGM HL HPA HBX HOP HB13 HI0
            rcases hwy with ⟨j1, j2⟩ | j1
            case' inl => have j3 : (k : Int) < (n : Int) := by omega
            case' inr => have j3 : ¬ (k : Int) < (n : Int) := by omega
            all_goals
              clear j1
              go_upto_if 121 with fail
              go_cut [11] from 21 (fun u wx => u = .string UB ∧ Hid (Below w.heap.size w wx))
              case first =>
                by_cases e0 : e = 0
                · have hq : (e == 0) = true := beq_iff_eq.2 e0
                  have hut := HUB.out.1 e0
                  have hb5 := hbt e0
                  try (rw [hq] at j2; cases j2)
                  all_goals
                    clear e0 hbt
                    go_wp2_with (go_at_call 23; refine hb5.mono ?_; clear hb5; rintro e w4 ⟨rfl, hb4⟩)
                    go_meet
                    case rel => exact ⟨by rw [hut], HBR.out.trans (hb4.mono HBR.out.size)⟩
                · have hq : (e == 0) = false := beq_eq_false_iff_ne.2 e0
                  have hut := HUB.out.2 e0
                  clear e0 hbt
                  go_wp2_with fail
                  go_meet
                  case rel => exact ⟨by rw [hut], HBR.out⟩
              case rest =>
                obtain ⟨rfl, HB20⟩ := hcut
                clear hbt HUB
                replace hbx := hbx _ HB20.out
                go_wp2_with (first
                  | (go_at_call 24; refine hbx.mono ?_; clear hbx; rintro e w21 ⟨rfl, hb21⟩; replace hb21 := HB20.out.trans (hb21.mono HB20.out.size); replace heb := heb w21 hb21)
                  | (go_at_call 13; refine heb.mono ?_; clear heb; rintro e w22 ⟨rfl, hb22⟩; replace hb22 := hb21.trans (hb22.mono hb21.size))
                  | (go_at_call 25; refine (hbo _).mono ?_; clear hbo; rintro e w23 ⟨a23, c23, rfl, hm23, hb23⟩; replace hb23 := hb22.trans (hb23.mono hb22.size))
                  | (go_at_call 26; refine (hop _ hb23).mono ?_; clear hop; rintro e w24 ⟨a24, c24, rfl, hm24, hb24⟩; replace hm23 := hm23.all hb24; replace hb24 := hb23.trans (hb24.mono hb23.size); replace he4 := he4 w24 hb24)
                  | (go_at_call 13; refine he4.mono ?_; clear he4; rintro e w25 ⟨rfl, hb25⟩; replace hme := hme a24 a23 c24 c23 w25 (hm24.all hb25) (hm23.all hb25); replace hb25 := hb24.trans (hb25.mono hb24.size))
                  | (go_at_call 22; refine hme.mono ?_; clear hme; rintro e w26 ⟨rfl, hb26⟩; replace hb26 := hb25.trans (hb26.mono hb25.size)))
                go_ret
                exact ⟨rfl, hb26⟩

/-- MailIs: at every mail, every two texts, every list of mails the law returns true. -/
theorem mailIs_any (f s0 d : ByteArray) (x : List UInt8) (am : Option Addr) (cm : Nat) (s : ByteArray) (a : Option Addr) (l : List Mb) (ca : Nat) (t : ByteArray) (w : World) (hx : Bya w am x cm) (hl : Mls w a l) (hlm : l.length ≤ maxLen) (hg : TypeLaid w) (hgm : Gm w) :
    Calls Tryd.prog 6 #[.agg #[.string f, .string s0, .string d, .slice am x.length cm], .string s, .slice a l.length ca, .string t] w fun e w' => e = .returned (.bool true) ∧ Below w.heap.size w w' := by
  have ck : CkC := fun f s d x am cm W _ => checkMail f s d x am cm W
  by_cases h : (1000 < x.length ∧ x.length ≤ 40000) ∨ 4000 < s.size ∨ 6000 < t.size
  · exact mailIs_out ck f s0 d x am cm s a l.length ca t w hx hg h
  · exact mailIs_in ck (fun f s d x am cm W h => printMail f s d x am cm W h) (fun s W h => parseMail s W h) (fun a l ca W h1 h2 => boxMails a l ca W h1 h2) (fun s W h1 h2 => openBox s W h1 h2) f s0 d x am cm s a l ca t w hx hl hlm hg hgm (fun g => h (.inl g)) (fun g => h (.inr (.inl g))) (fun g => h (.inr (.inr g)))

end Go.Proofs.YtppmpofdhkgjmafDoor
