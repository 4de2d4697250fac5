/-
  Walk of the law LettersBack.
-/
import Derived.Test.YtgpkggccggdpbafDoorLis
import Derived.Deep.DeepCutAuto
import Derived.Lib.SlBytesConst
import Derived.Lib.AppendZeros
import Derived.Laws.OwnMore
import Derived.Deep.CutRange

namespace Go.Proofs.YtgpkggccggdpbafDoor
open Go.RowKit Dist

/-- The text of two bytes. -/
theorem hi_text : ltrs [104, 105] = [97, 71, 107, 61, 10] := by
  unfold ltrs
  rw [show pd4 ((sxs [104, 105]).map ltr) = [97, 71, 107, 61] by kernel_rfl, lnz_eq, if_neg (by decide), if_pos (by decide)]; rfl

/-- Bytes that came in behind a row of one's own. -/
theorem app_bya {W : World} {B : Nat} {v : Value} {l m : List UInt8} {b : Option Addr} {cb : Nat} (hown : W.ownsRow B 5 1 v l.length (u8s l)) (hm : Bya W b m cb) (hB : B ≤ W.heap.size) (hlen : l.length + m.length ≤ 100000) (ty : TypeId) :
    ∃ ao cap W', (Builtin.append_ #[39, 39] ty #[v, .slice b m.length cb]).run Tryd.prog W = .ok (.slice ao (l ++ m).length cap) W' ∧ W'.ownsRow B 5 1 (.slice ao (l ++ m).length cap) (l ++ m).length (u8s (l ++ m)) ∧ Below B W W' := by
  obtain ⟨i0, hi0, hz0, hz1, hz2⟩ := info_parts Tryd.info5
  have hsome : ∀ x : Addr, b = some x → (∀ (j : Nat) u, (u8s m)[j]? = some u → W.cell? (x.add j) = some u) → ∃ ao cap W', (Builtin.append_ #[39, 39] ty #[v, .slice b m.length cb]).run Tryd.prog W = .ok (.slice ao (l ++ m).length cap) W' ∧ W'.ownsRow B 5 1 (.slice ao (l ++ m).length cap) (l ++ m).length (u8s (l ++ m)) ∧ Below B W W' := by
    rintro x rfl hcells
    obtain ⟨v', W', hr, h2, h3, _⟩ := run_append_own (P := Tryd.prog) W B 39 ty 5 i0 (.int .u8 0) 1 1 Tryd.underlying39 hi0 hz0 hz1 hz2 rfl (by decide) v l.length (u8s l) hown x m.length cb (u8s m) (by rw [u8s_len]; omega) hcells (u8s_one m) (by unfold maxLen; omega) (by omega) hB
    rw [← u8s_app, ← List.length_append] at h2
    obtain ⟨ao, n, cap, rfl⟩ : ∃ ao n cap, v' = .slice ao n cap := by
      rcases h2.2 with ⟨hv, _⟩ | ⟨g, cap, cur, hv, _⟩
      · exact ⟨_, _, _, hv⟩
      · exact ⟨_, _, _, hv⟩
    obtain ⟨rfl, _⟩ := bya_of_own h2
    exact ⟨ao, cap, W', hr, h2, (Below.refl B W).grown h3 hB (fun k e => (hown.lt k e).1)⟩
  rcases hm with ⟨h0, hc⟩ | ⟨b', off, hb', _, hby⟩
  · obtain rfl : m = [] := List.length_eq_zero_iff.1 h0
    cases b with
    | some x => exact hsome x rfl (fun j u h => by simp [u8s] at h)
    | none =>
    obtain rfl := hc rfl
    obtain ⟨ao, n, cap, rfl⟩ : ∃ ao n cap, v = .slice ao n cap := by
      rcases hown.2 with ⟨hv, _⟩ | ⟨g, cap, cur, hv, _⟩
      · exact ⟨_, _, _, hv⟩
      · exact ⟨_, _, _, hv⟩
    obtain ⟨rfl, _⟩ := bya_of_own hown
    rw [List.append_nil]
    exact ⟨ao, cap, W, run_append_owned_none W B 39 ty 5 i0 1 Tryd.underlying39 hi0 _ _ _ hown, hown, Below.refl _ _⟩
  · exact hsome _ hb' hby.get

/-- Is there a byte to change? -/
def chg (k : Int) (t : ByteArray) (z : UInt8) : Bool := decide (0 ≤ k) && (decide (k.toNat < t.size) && (t.data.toList.getD k.toNat 0 != z))

/-- A text with a byte changed, as bytes. -/
theorem conv_set (t : ByteArray) (p : Nat) (z : UInt8) (hp : p < t.size) (W : World) : ∃ g cap W', (convert 9 39 (.string t)).run Tryd.prog W = .ok (.slice (some ⟨g, 0, none⟩) t.size cap) W' ∧ (∃ v, W'.cell? ⟨g, p, none⟩ = some v) ∧ W'.frozen? ⟨g, p, none⟩ = false ∧ Below W.heap.size W (W'.setCell ⟨g, p, none⟩ (.int .u8 z.toNat)) ∧
    (convert 39 9 (.slice (some ⟨g, 0, none⟩) t.size cap)).run Tryd.prog (W'.setCell ⟨g, p, none⟩ (.int .u8 z.toNat)) = .ok (.string ⟨(t.data.toList.set p z).toArray⟩) (W'.setCell ⟨g, p, none⟩ (.int .u8 z.toNat)) := by
  obtain ⟨cap, W', h1, h2, h3, h4, h5, _⟩ := conv_bytes t.data.toList W
  have e1 : (⟨t.data.toList.toArray⟩ : ByteArray) = t := by cases t; simp
  have e2 : t.data.toList.length = t.size := (Lib.size_eq t).symm
  rw [e1, e2] at h1
  rw [e2] at h4 h2
  have hc := h3 p (by rw [e2]; exact hp)
  rw [Nat.zero_add] at hc
  refine ⟨W.heap.size, cap, W', h1, ⟨_, hc⟩, h4 p hp, h5.setCell (p := ⟨W.heap.size, p, none⟩) (Nat.le_refl _) _, ?_⟩
  have hset : Bya (W'.setCell ⟨W.heap.size, p, none⟩ (.int .u8 z.toNat)) (some ⟨W.heap.size, 0, none⟩) (t.data.toList.set p z) cap := by
    refine .inr ⟨_, _, rfl, by rw [List.length_set, e2]; exact h2, fun i hi => ?_⟩
    rw [List.length_set] at hi
    by_cases hip : i = p
    · subst hip
      rw [Nat.zero_add, World.cell?_setCell_same _ _ _ hc, List.getD_eq_getElem?_getD, List.getElem?_set_self hi]; rfl
    · rw [World.cell?_setCell_other _ _ _ _ (fun e => hip (by have := congrArg Addr.off e; simp at this; omega)), h3 i hi, List.getD_eq_getElem?_getD, List.getD_eq_getElem?_getD, List.getElem?_set_ne (Ne.symm hip)]
  have := conv_text hset
  rw [List.length_set, e2] at this
  exact this

set_option maxRecDepth 100000 in
set_option maxHeartbeats 2000000 in
theorem lettersBack_any (a b : Option Addr) (l m : List UInt8) (ca cb : Nat) (at_ : Int) (z : UInt8) (s : ByteArray) (w : World) (ha : Bya w a l ca) (hb : Bya w b m cb) (hs : s.size ≤ 140737488355328) :
    Calls Tryd.prog 5 #[.slice a l.length ca, .int .i64 at_, .int .u8 z.toNat, .string s, .slice b m.length cb] w fun e w' => e = .returned (.bool true) ∧ Below w.heap.size w w' := by
  have HA : Hid (Bya w a l ca) := ha
  have HM : Hid (Bya w b m cb) := hb
  obtain ⟨len, hlen⟩ : ∃ len, l.length = len := ⟨_, rfl⟩
  obtain ⟨lm, hlm⟩ : ∃ lm, m.length = lm := ⟨_, rfl⟩
  have HL : Hid (l.length = len) := hlen
  have HLM : Hid (m.length = lm) := hlm
  rw [hlen, hlm]
  clear ha hb hlen hlm
  have hhi : ∀ W b, Byt W b 0 [104, 105] → Calls Tryd.prog 10 #[.slice (some ⟨b, 0, none⟩) 2 2] W fun e w' => e = .returned (.tuple #[.string ⟨#[97, 71, 107, 61, 10]⟩, .nilIface]) ∧ Below W.heap.size W w' := fun W b h => by
    have := encode (some ⟨b, 0, none⟩) [104, 105] 2 W (.inr ⟨b, 0, rfl, Nat.le_refl _, h⟩) (by decide)
    rw [hi_text] at this
    exact this
  have hcs := fun (w : World) (C : Array Value) (n c : Nat) => Lib.run_convert_bytes_const (P := Tryd.prog) w 39 5 C n c Tryd.underlying39 Tryd.underlying5
  go_enter Tryd.func5, Tryd.ntmps5
  go_upto_region 4 with (first
    | (go_at_call 10; refine (hhi _ _ ?_).mono ?_; exact byt_of_row (heap_alloc_new _ _) (fun i hi => by have hi : i < 2 := hi; rcases (by omega : i = 0 ∨ i = 1) with rfl | rfl <;> rfl); rintro e w1 ⟨rfl, hb1⟩))
  clear hhi
  have hs4 : ∀ W, Calls Tryd.prog 13 #[.string s] W fun e W' => ∃ (v : Value) (f : Int), e = .returned (.tuple #[v, errV f]) ∧ Below W.heap.size W W' ∧ ((f = 5 ∧ v = .slice none 0 0) ∨ (f = 0 ∧ ∃ x a c, v = .slice a x.length c ∧ Bya W' a x c ∧ byo s.data.toList = some x)) := fun W => by
    cases hx : byo s.data.toList with
    | none =>
      refine (decodeBad s hs ((dcd_byo _).trans hx) W).mono ?_
      rintro e W' ⟨rfl, h⟩
      exact ⟨_, 5, by rw [errV_not (by decide)], h, .inl ⟨rfl, rfl⟩⟩
    | some x =>
      refine (decodeOk s hs x ((dcd_byo _).trans hx) W).mono ?_
      rintro e W' ⟨a, c, rfl, h, h2⟩
      exact ⟨_, 0, by rw [errV_zero], h2, .inr ⟨rfl, x, a, c, rfl, h, rfl⟩⟩
  go_upto_region 5 with (first
    | (go_at_call 13; refine (hs4 _).mono ?_; clear hs4; rintro e w2 ⟨v2, f2, rfl, hb2, hf2⟩))
  obtain ⟨b2, hb2e⟩ : ∃ b2, decide (f2 = 0) = b2 := ⟨_, rfl⟩
  have HB2E : Hid (decide (f2 = 0) = b2) := hb2e
  have HF2 : Hid ((f2 = 5 ∧ v2 = .slice none 0 0) ∨ (f2 = 0 ∧ ∃ x a c, v2 = .slice a x.length c ∧ Bya w2 a x c ∧ byo s.data.toList = some x)) := hf2
  have HW2 : Hid (Below w.heap.size w w2) := (below_alloc w _).trans ((hb1.trans (hb2.mono hb1.size)).mono (by simp))
  clear hb2e hf2 hb1 hb2
  go_cut [45] from 27 (fun u wx => u = .bool b2 ∧ wx = w2)
  case first =>
    rcases HF2.out with ⟨rfl, rfl⟩ | ⟨rfl, x, a2, c2, rfl, hy2, hx2⟩
    · rw [errV_not (e := 5) (by decide)]
      obtain rfl : b2 = false := by rw [← HB2E.out]; rfl
      go_wp2_with fail
      go_meet
      case rel => exact ⟨rfl, rfl⟩
    · rw [errV_zero]
      obtain rfl : b2 = true := by rw [← HB2E.out]; rfl
      go_wp2_with fail
      go_meet
      case rel => exact ⟨rfl, rfl⟩
  case rest =>
    obtain ⟨rfl, rfl⟩ := hcut
    have HB3E := HB2E
    clear HB2E
    go_upto_if 45 with fail
    go_cut [15, 16] from 27 (fun _ _ wx => Below w.heap.size w wx)
    case first =>
      rcases HF2.out with ⟨rfl, rfl⟩ | ⟨rfl, x, a2, c2, rfl, hy2, hx2⟩
      · obtain rfl : b2 = false := by rw [← HB3E.out]; rfl
        go_wp2_with fail
        go_meet
        case rel => exact HW2.out
      · obtain rfl : b2 = true := by rw [← HB3E.out]; rfl
        obtain ⟨hx3, hx4⟩ := byo_some hx2
        have hen := encode a2 x c2 _ hy2 hx4
        rw [hx3, show (⟨s.data.toList.toArray⟩ : ByteArray) = s by cases s; simp] at hen
        have hss : (s.toList == s.toList) = true := beq_self_eq_true _
        go_wp2_with (go_at_call 10; refine hen.mono ?_; rintro e w3 ⟨rfl, hb3⟩)
        go_meet
        case rel => exact HW2.out.trans (hb3.mono HW2.out.size)
    case rest =>
      have HC := hcut
      clear HF2 HB3E HW2
      obtain ⟨W3, hW3⟩ : ∃ W3, W3 = wc := ⟨_, rfl⟩
      rw [← hW3] at HC ⊢
      clear hW3 hcut
      have HAW : Hid (∀ W, Below w.heap.size w W → Bya W a l ca) := fun W h => HA.out.all h
      have HMW : Hid (∀ W, Below w.heap.size w W → Bya W b m cb) := fun W h => HM.out.all h
      have HC3 : Hid (Below w.heap.size w W3) := HC
      clear HC
      by_cases h40 : 40000 < len
      · have hen := encodeFull a len ca W3 h40
        have hd40 : decide ((40000 : Int) < (len : Int)) = true := decide_eq_true (by omega)
        go_wp2_with (go_at_call 10; refine hen.mono ?_; rintro e w4 ⟨rfl, hb4⟩)
        go_ret
        exact ⟨rfl, HC3.out.trans (hb4.mono HC3.out.size)⟩
      · have hen := encode a l ca W3 (HAW.out _ HC3.out) (by rw [HL.out]; omega)
        rw [HL.out] at hen
        obtain ⟨t, ht⟩ : ∃ t : ByteArray, (⟨(ltrs l).toArray⟩ : ByteArray) = t := ⟨_, rfl⟩
        have htl : t.data.toList = ltrs l := by rw [← ht]
        have HT : Hid (t.data.toList = ltrs l) := htl
        have hts : t.size ≤ 60000 := by rw [Lib.size_eq, htl, ltrs_len, HL.out]; omega
        rw [ht] at hen
        have hdt := decodeOk t (by omega) l (by rw [htl]; exact (dcd_byo _).trans (byo_ltrs (by rw [HL.out]; omega)))
        rw [HL.out] at hdt
        obtain ⟨bt, hbt⟩ : ∃ bt : ByteArray, (⟨l.toArray⟩ : ByteArray) = bt := ⟨_, rfl⟩
        have HBT : Hid ((⟨l.toArray⟩ : ByteArray) = bt) := hbt
        have hbb : (bt.toList == bt.toList) = true := beq_self_eq_true _
        clear ht htl hbt
        go_upto_region 15 with (first
          | (go_at_call 10; refine hen.mono ?_; rintro e w4 ⟨rfl, hb4⟩; replace hb4 := HC3.out.trans (hb4.mono HC3.out.size); replace hdt := hdt w4)
          | (go_at_call 13; refine hdt.mono ?_; rintro e w5 ⟨a5, c5, rfl, hy5, hb5⟩; replace hb5 := hb4.trans (hb5.mono hb4.size); have hcv5 := conv_text hy5; have hcva := conv_text (HAW.out _ hb5); rw [HL.out, HBT.out] at hcv5 hcva))
        clear hcv5 hcva hbb hy5
        obtain ⟨b5, hb5e⟩ : ∃ b5, chg at_ t z = b5 := ⟨_, rfl⟩
        have HB5 : Hid (chg at_ t z = b5) := hb5e
        have HW5 : Hid (Below w.heap.size w w5) := hb5
        clear hb5e hb5 hb4
        go_cut [96] from 27 (fun u wx => u = .bool b5 ∧ wx = w5)
        case first =>
          by_cases k1 : 0 ≤ at_
          · obtain ⟨p, rfl⟩ := Int.eq_ofNat_of_zero_le k1
            have hp0 : decide ((0 : Int) ≤ (p : Int)) = true := decide_eq_true (by omega)
            by_cases k2 : p < t.size
            · have hp1 : decide ((p : Int) < (t.size : Int)) = true := decide_eq_true (by omega)
              obtain ⟨d, hd⟩ : ∃ d, t[p] = d := ⟨_, rfl⟩
              have hdg : t.data.toList.getD p 0 = d := by
                rw [List.getD_eq_getElem?_getD, List.getElem?_eq_getElem (by rw [← Lib.size_eq]; exact k2)]
                exact hd
              by_cases k3 : d = z
              · have hn : ((d.toNat : Int) != (z.toNat : Int)) = false := by rw [k3]; simp
                obtain rfl : b5 = false := by rw [← HB5.out]; unfold chg; rw [Int.toNat_natCast, hdg, k3]; simp
                clear k3 hdg HB5
                go_wp2_with fail
                go_meet
                case rel => exact ⟨rfl, rfl⟩
              · have hn : ((d.toNat : Int) != (z.toNat : Int)) = true := bne_iff_ne.2 (fun h => k3 (UInt8.toNat_inj.1 (by omega)))
                obtain rfl : b5 = true := by rw [← HB5.out]; unfold chg; rw [Int.toNat_natCast, hdg, hp0, decide_eq_true k2, bne_iff_ne.2 k3]; rfl
                clear k3 hdg HB5
                go_wp2_with fail
                go_meet
                case rel => exact ⟨rfl, rfl⟩
            · have hp1 : decide ((p : Int) < (t.size : Int)) = false := decide_eq_false (by omega)
              obtain rfl : b5 = false := by rw [← HB5.out]; unfold chg; rw [Int.toNat_natCast, decide_eq_false k2]; simp
              clear HB5
              go_wp2_with fail
              go_meet
              case rel => exact ⟨rfl, rfl⟩
          · have hp0 : decide (0 ≤ at_) = false := decide_eq_false k1
            obtain rfl : b5 = false := by rw [← HB5.out]; unfold chg; rw [hp0]; rfl
            clear HB5 k1
            go_wp2_with fail
            go_meet
            case rel => exact ⟨rfl, rfl⟩
        case rest =>
          obtain ⟨rfl, rfl⟩ := hcut
          go_upto_if 96 with fail
          go_cut [19, 20, 21] from 27 (fun _ _ _ wx => Below w.heap.size w wx)
          case first =>
            by_cases k : b5 = true
            · have hch := HB5.out
              rw [k] at hch
              unfold chg at hch
              simp only [Bool.and_eq_true, decide_eq_true_eq, bne_iff_ne] at hch
              obtain ⟨k1, k2, k3⟩ := hch
              obtain ⟨p, rfl⟩ := Int.eq_ofNat_of_zero_le k1
              rw [Int.toNat_natCast] at k2 k3
              obtain rfl : b5 = true := k
              have hbs := HW5.out.size
              obtain ⟨g, cap6, w6, hc6, ⟨v6, hv6⟩, hf6, hb6, hd6⟩ := conv_set t p z k2 wc
              obtain ⟨u, hu⟩ : ∃ u : ByteArray, (⟨(t.data.toList.set p z).toArray⟩ : ByteArray) = u := ⟨_, rfl⟩
              have hul : u.data.toList = t.data.toList.set p z := by rw [← hu]
              have hus : u.size = t.size := by rw [Lib.size_eq, Lib.size_eq, hul, List.length_set]
              rw [hu] at hd6
              have hp0 : (0 : Int) ≤ (p : Int) := by omega
              have hp1 : (p : Int) < (t.size : Int) := by omega
              cases hx : byo u.data.toList with
              | none =>
                have hdu := decodeBad u (by omega) ((dcd_byo _).trans hx)
                clear hx hul hu k3 k1 HB5
                go_wp2_with (go_at_call 13; refine (hdu _).mono ?_; rintro e w7 ⟨rfl, hb7⟩)
                go_meet
                case rel => exact HW5.out.trans ((hb6.trans (hb7.mono hb6.size)).mono hbs)
              | some y =>
                have hdu := decodeOk u (by omega) y ((dcd_byo _).trans hx)
                have hyl : y ≠ l := fun e => by
                  have h1 := (byo_some hx).1
                  rw [e, ← HT.out, hul] at h1
                  have h2 : (t.data.toList.set p z).getD p 0 = z := by rw [List.getD_eq_getElem?_getD, List.getElem?_set_self (by rw [← Lib.size_eq]; exact k2)]; rfl
                  rw [← h1] at h2
                  exact k3 h2
                obtain ⟨yt, hyt⟩ : ∃ yt : ByteArray, (⟨y.toArray⟩ : ByteArray) = yt := ⟨_, rfl⟩
                have hne : (yt.toList == bt.toList) = false := (Lib.bytes_beq_false_iff yt bt).2 (fun e => hyl (by
                  have h3 : (⟨y.toArray⟩ : ByteArray) = ⟨l.toArray⟩ := hyt.trans (e.trans HBT.out.symm)
                  exact ((text_of y _).1 h3).trans rfl))
                clear hx hul hu k3 k1 hyl HB5
                go_wp2_with (go_at_call 13; refine (hdu _).mono ?_; rintro e w7 ⟨a7, c7, rfl, hy7, hb7⟩; have hb67 := HW5.out.trans ((hb6.trans (hb7.mono hb6.size)).mono hbs); have hcy := conv_text hy7; have hcl := conv_text (HAW.out _ hb67); rw [HL.out, HBT.out] at hcl; rw [hyt] at hcy)
                go_meet
                case rel => exact hb67
            · obtain rfl : b5 = false := by simpa using k
              clear k HB5
              go_wp2_with fail
              go_meet
              case rel => exact HW5.out
          case rest =>
            have HC6 : Hid (Below w.heap.size w _) := hcut
            clear HW5 HB5
            obtain ⟨W6, hW6⟩ : ∃ W6, W6 = wc := ⟨_, rfl⟩
            rw [← hW6] at HC6 ⊢
            clear hW6 hcut
            by_cases m57 : lm = 57
            · have hmb : ((lm : Int) != 57) = false := by rw [m57]; rfl
              by_cases l1000 : 1000 < len
              · have hlb : decide ((1000 : Int) < (len : Int)) = true := decide_eq_true (by omega)
                replace m57 : Hid (lm = 57) := m57
                go_wp2
                go_ret
                exact ⟨rfl, HC6.out⟩
              · have hlb : decide ((1000 : Int) < (len : Int)) = false := decide_eq_false (by omega)
                have hs6 := HC6.out.size
                have hmw := HMW.out W6 HC6.out
                obtain ⟨a7, c7, w7, hap7, how7, hb7⟩ := app_bya (l := []) (World.ownsRow_nil W6 w.heap.size 5 1) hmw hs6 (by rw [HLM.out]; simp; omega) 39
                have h67 := HC6.out.trans hb7
                rw [List.nil_append] at hap7 how7
                obtain ⟨a8, c8, w8, hap8, how8, hb8⟩ := app_bya how7 (HAW.out w7 h67) h67.size (by rw [HLM.out, HL.out]; omega) 39
                have h68 := h67.trans hb8
                have hall := encode a8 (m ++ l) c8 w8 (bya_of_own how8).2 (by rw [List.length_append, HLM.out, HL.out]; omega)
                have hmore := fun W (h : Below w.heap.size w W) => encode b m cb W (HMW.out W h) (by rw [HLM.out]; omega)
                have hcat : ltrs (m ++ l) = ltrs m ++ ltrs l := ltrs_more (by rw [HLM.out]; exact m57)
                obtain ⟨tu, htu⟩ : ∃ tu : ByteArray, (⟨(ltrs (m ++ l)).toArray⟩ : ByteArray) = tu := ⟨_, rfl⟩
                obtain ⟨tv, htv⟩ : ∃ tv : ByteArray, (⟨(ltrs m).toArray⟩ : ByteArray) = tv := ⟨_, rfl⟩
                have htuv : tu = tv ++ t := by
                  rw [← htu]
                  refine (text_of _ _).2 ?_
                  rw [app_data, hcat, ← htv, HT.out]
                have hcmp : (tu.toList == (tv ++ t).toList) = true := by rw [htuv]; exact beq_self_eq_true _
                have hvs : tv.size ≤ 200 := by
                  rw [← htv]
                  show (ltrs m).toArray.size ≤ 200
                  rw [List.size_toArray, ltrs_len, HLM.out]; omega
                have hno : ¬ 9223372036854775807 < tv.size + t.size := by omega
                rw [htu, List.length_append, HLM.out, HL.out] at hall
                simp only [htv, HLM.out] at hmore
                rw [HLM.out] at hap7
                rw [List.length_append, HLM.out, HL.out] at hap8
                replace m57 : Hid (lm = 57) := m57
                clear htuv htu htv hcat how7 how8 hmw
                go_wp2_with (first
                  | (at_builtin; refine Lib.wpList_append_run _ rfl _ _ _ _ rfl _ _ rfl rfl _ _ hap7 ?_)
                  | (at_builtin; refine Lib.wpList_append_run _ rfl _ _ _ _ rfl _ _ rfl rfl _ _ hap8 ?_)
                  | (go_at_call 10; refine hall.mono ?_; clear hall; rintro e w9 ⟨rfl, hb9⟩; have h69 := h68.trans (hb9.mono h68.size); replace hmore := hmore w9 h69)
                  | (go_at_call 10; refine hmore.mono ?_; clear hmore; rintro e w10 ⟨rfl, hb10⟩))
                go_ret
                exact ⟨rfl, h69.trans (hb10.mono h69.size)⟩
            · have hmb : ((lm : Int) != 57) = true := bne_iff_ne.2 (by omega)
              replace m57 : Hid (¬ lm = 57) := m57
              go_wp2
              go_ret
              exact ⟨rfl, HC6.out⟩

end Go.Proofs.YtgpkggccggdpbafDoor
