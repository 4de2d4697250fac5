/-
  Walk of the document's Letters.
-/
import Derived.Test.YtppmpofdhkgjmafDoorEnc

namespace Go.Proofs.YtppmpofdhkgjmafDoor
open Go.RowKit Dist

/-- m bits from a place on. -/
def sxm (l : List UInt8) (i : Nat) : Nat → Nat
  | 0 => 0
  | m + 1 => sxm l i m * 2 + bt l (i + m)
theorem sxm_six (l : List UInt8) (i : Nat) : sxm l i 6 = six l i := by
  unfold six
  simp only [sxm, Nat.zero_mul, Nat.zero_add, Nat.add_zero]
theorem sxm_lt (l : List UInt8) (i : Nat) : ∀ m, sxm l i m < 2 ^ m
  | 0 => by simp [sxm]
  | m + 1 => by
    have h1 := sxm_lt l i m
    have h2 := bt_le l (i + m)
    rw [sxm, Nat.pow_succ]; omega
theorem sxm_64 (l : List UInt8) (i : Nat) {m x : Nat} (hm : m < 6) (hx : x = sxm l i m * 2 + bt l (i + m)) : x < 64 := by
  have h := sxm_lt l i (m + 1)
  have h2 : (2 : Nat) ^ (m + 1) ≤ 2 ^ 6 := Nat.pow_le_pow_right (by omega) (by omega)
  have h3 : sxm l i (m + 1) = x := hx.symm
  omega
/-- The first j letters. -/
def slt (l : List UInt8) (j : Nat) : List UInt8 := (List.range j).map fun q => ltr (six l (6 * q))
theorem slt_succ (l : List UInt8) (j : Nat) : slt l (j + 1) = slt l j ++ [ltr (six l (6 * j))] := by unfold slt; rw [List.range_succ, List.map_append]; rfl
theorem slt_all (l : List UInt8) : slt l ((l.length * 8 + 5) / 6) = (sxs l).map ltr := by unfold slt sxs; rw [List.map_map]; rfl
theorem slt_len (l : List UInt8) (j : Nat) : (slt l j).length = j := by simp [slt]

theorem u8_and1 (V k : Nat) (h : V < 256) : bits .and .u8 ((V : Int) / 2 ^ k) 1 = ((V / 2 ^ k % 2 : Nat) : Int) := by
  have e : ((V : Int) / 2 ^ k) = ((V / 2 ^ k : Nat) : Int) := by simp
  rw [e, show (1 : Int) = ((1 : Nat) : Int) from rfl, u8_and_nat _ 1 (Nat.lt_of_le_of_lt (Nat.div_le_self _ _) h) (by omega), Nat.and_one_is_mod]

theorem abc_part_all : ((List.range 64).all fun v => (({ data := #[65, 66, 67, 68, 69, 70, 71, 72, 73, 74, 75, 76, 77, 78, 79, 80, 81, 82, 83, 84, 85, 86, 87, 88, 89, 90, 97, 98, 99, 100, 101, 102, 103, 104, 105, 106, 107, 108, 109, 110, 111, 112, 113, 114, 115, 116, 117, 118, 119, 120, 121, 122, 48, 49, 50, 51, 52, 53, 54, 55, 56, 57, 43, 47] } : ByteArray).extract v (v + 1)).data.toList == [ltr v]) = true := by kernel_rfl
theorem abc_part (v : Nat) (h : v < 64) : ({ data := #[65, 66, 67, 68, 69, 70, 71, 72, 73, 74, 75, 76, 77, 78, 79, 80, 81, 82, 83, 84, 85, 86, 87, 88, 89, 90, 97, 98, 99, 100, 101, 102, 103, 104, 105, 106, 107, 108, 109, 110, 111, 112, 113, 114, 115, 116, 117, 118, 119, 120, 121, 122, 48, 49, 50, 51, 52, 53, 54, 55, 56, 57, 43, 47] } : ByteArray).extract v (v + 1) = ⟨#[ltr v]⟩ := by
  have := List.all_eq_true.1 abc_part_all v (List.mem_range.2 h)
  have e := eq_of_beq this
  exact ByteArray.ext (Array.toList_inj.1 e)
theorem str_app (a b : List UInt8) : (⟨a.toArray⟩ : ByteArray) ++ ⟨b.toArray⟩ = ⟨(a ++ b).toArray⟩ := by
  apply ByteArray.ext
  simp

theorem app_data (a b : ByteArray) : (a ++ b).data.toList = a.data.toList ++ b.data.toList := by simp
theorem text_is {l : List UInt8} {s : ByteArray} (h : s.data.toList = l) : s = ⟨l.toArray⟩ := by rw [← h]

set_option maxRecDepth 100000 in
set_option maxHeartbeats 1000000 in
theorem lettersOf (a : Option Addr) (l : List UInt8) (cap : Nat) (w : World) (ha : Bya w a l cap) (hl : l.length ≤ 40000) :
    Calls Tryd.prog 11 #[.slice a l.length cap] w fun e w' => e = .returned (.string ⟨(ltrs l).toArray⟩) ∧ w' = w := by
  obtain ⟨len, hlen⟩ : ∃ len, l.length = len := ⟨_, rfl⟩
  have HA : Hid (Bya w a l cap) := ha
  have HL : Hid (l.length = len) := hlen
  rw [hlen] at hl ⊢
  clear ha hlen
  go_enter Tryd.func11, Tryd.ntmps11
  go_wp2
  go_loopw [3, 4, 5, 6] (fun s3 s4 _ _ wr => ∃ j : Nat, s4 = .int .i64 (6 * j : Nat) ∧ Hid (j ≤ (len * 8 + 5) / 6) ∧ (∃ t : ByteArray, s3 = .string t ∧ t.size = j ∧ Hid (t = ⟨(slt l j).toArray⟩)) ∧ Hid (wr = w)) (fun _ s4 _ _ _ => len * 8 - (intOf s4).toNat)
  case atStart => exact ⟨0, rfl, Nat.zero_le _, ⟨⟨#[]⟩, rfl, rfl, rfl⟩, rfl⟩
  case round =>
    obtain ⟨j, rfl, HJ, ⟨t, rfl, hts, HT⟩, HW⟩ := hrel
    obtain ⟨i, hi⟩ : ∃ i, 6 * j = i := ⟨_, rfl⟩
    have HI : Hid (6 * j = i) := hi
    have hj := HJ.out
    have hil : i ≤ 320010 := by omega
    rw [hi]
    by_cases hlt : i < len * 8
    · clear hi hj
      have hgi : decide ((i : Int) < (len : Int) * 8) = true := decide_eq_true (by omega)
      go_wp2
      go_loopw [5, 6] (fun s5 s6 ww => ∃ (m v k : Nat), m ≤ 6 ∧ i + m = k ∧ s6 = .int .i64 k ∧ s5 = .int .i64 v ∧ v < 64 ∧ Hid (v = sxm l i m) ∧ Hid (ww = w)) (fun _ s6 _ => i + 6 - (intOf s6).toNat)
      case atStart => exact ⟨0, 0, i, by omega, rfl, rfl, rfl, by omega, rfl, HW⟩
      case round =>
        obtain ⟨m, v, k, hm, hk, rfl, rfl, hv, HV, HW2⟩ := hrel
        have HK : Hid (i + m = k) := hk
        by_cases hmm : m < 6
        · by_cases hkl : k < len * 8
          · have hkk : k < i + 6 := by omega
            rcases HA.out with ⟨h0, _⟩ | ⟨b, off, rfl, hcap, hby⟩
            · have := HL.out
              omega
            obtain ⟨q, hq⟩ : ∃ q, k / 8 = q := ⟨_, rfl⟩
            obtain ⟨r, hr⟩ : ∃ r, k % 8 = r := ⟨_, rfl⟩
            have hqi : (k : Int) / 8 = (q : Int) := by omega
            have hri : (k : Int) % 8 = (r : Int) := by omega
            have hr8 : r < 8 := by omega
            have hql : q < len := by omega
            obtain ⟨V, hV⟩ : ∃ V, (l.getD q 0).toNat = V := ⟨_, rfl⟩
            have hVl : V < 256 := hV ▸ UInt8.toNat_lt _
            have cq : wr.cell? ⟨b, off + q, none⟩ = some (.int .u8 V) := by rw [HW2.out, hby q (by rw [HL.out]; exact hql), hV]
            have HB : Hid (bt l k = V / 2 ^ (7 - r) % 2) := by
              show bt l k = _
              unfold bt
              rw [if_pos (by rw [HL.out]; exact hkl), hq, hr, hV]
            have hbit : (bits BinOp.and IntKind.u8 ((V : Int) / 2 ^ (7 - r)) 1) = ((V / 2 ^ (7 - r) % 2 : Nat) : Int) := u8_and1 V (7 - r) hVl
            obtain ⟨β, hβ⟩ : ∃ β, V / 2 ^ (7 - r) % 2 = β := ⟨_, rfl⟩
            rw [hβ] at HB hbit
            have hβ2 : β < 2 := by omega
            clear hk hq hr hV hby hβ
            rcases (by omega : β = 0 ∨ β = 1) with rfl | rfl
            · have hbb : (bits BinOp.and IntKind.u8 ((V : Int) / 2 ^ (7 - r)) 1 == 1) = false := by rw [hbit]; rfl
              clear hbit
              go_wp2
              go_roundw
              case rel => exact ⟨m + 1, v * 2, k + 1, by omega, by have := HK.out; omega, by simp, by simp, sxm_64 l i (by omega) (by have h1 := HV.out; have h2 := HB.out; have h3 := HK.out; rw [h3, h2]; omega), by show v * 2 = sxm l i m * 2 + bt l (i + m); have h1 := HV.out; have h2 := HB.out; have h3 := HK.out; rw [h3, h2]; omega, HW2⟩
              case measure => simp [intOf]; omega
            · have hbb : (bits BinOp.and IntKind.u8 ((V : Int) / 2 ^ (7 - r)) 1 == 1) = true := by rw [hbit]; rfl
              clear hbit
              go_wp2
              go_roundw
              case rel => exact ⟨m + 1, v * 2 + 1, k + 1, by omega, by have := HK.out; omega, by simp, by simp, sxm_64 l i (by omega) (by have h1 := HV.out; have h2 := HB.out; have h3 := HK.out; rw [h3, h2]; omega), by show v * 2 + 1 = sxm l i m * 2 + bt l (i + m); have h1 := HV.out; have h2 := HB.out; have h3 := HK.out; rw [h3, h2]; omega, HW2⟩
              case measure => simp [intOf]; omega
          · have hkk : k < i + 6 := by omega
            have HB : Hid (bt l k = 0) := bt_out (by rw [HL.out]; omega)
            clear hk
            go_wp2
            go_roundw
            case rel => exact ⟨m + 1, v * 2, k + 1, by omega, by have := HK.out; omega, by simp, by simp, sxm_64 l i (by omega) (by have h1 := HV.out; have h2 := HB.out; have h3 := HK.out; rw [h3, h2]; omega), by show v * 2 = sxm l i m * 2 + bt l (i + m); have h1 := HV.out; have h2 := HB.out; have h3 := HK.out; rw [h3, h2]; omega, HW2⟩
            case measure => simp [intOf]; omega
        · obtain rfl : m = 6 := by omega
          have hk6 : k = i + 6 := by omega
          have HV6 : Hid (v = six l i) := HV.out.trans (sxm_six l i)
          subst hk6
          clear hk
          have hno : ¬ 9223372036854775807 < j + (min (v + 1) 64 - v) := by
            have hj := HJ.out
            omega
          go_wp2
          go_roundw
          case rel =>
            refine ⟨j + 1, ?_, ?_, ⟨_, rfl, ?_, ?_⟩, HW2⟩
            · have := HI.out
              rw [show 6 * (j + 1) = i + 6 by omega]; simp
            · have := HI.out
              show j + 1 ≤ (len * 8 + 5) / 6
              omega
            · rw [abc_part v hv]
              show (t ++ ⟨#[ltr v]⟩).size = j + 1
              rw [ByteArray.size_append, hts]; rfl
            · show t ++ _ = _
              rw [abc_part v hv, HT.out, slt_succ, HI.out, ← HV6.out]
              exact str_app (slt l j) [ltr v]
          case measure => simp [intOf]; omega
    · have hje : j = (len * 8 + 5) / 6 := by omega
      have HT2 : Hid (t = ⟨((sxs l).map ltr).toArray⟩) := by
        show t = _
        rw [HT.out, hje, ← HL.out, slt_all]
      obtain ⟨z, hz⟩ : ∃ z, (4 - j % 4) % 4 = z := ⟨_, rfl⟩
      have HZ : Hid ((4 - j % 4) % 4 = z) := hz
      have hjl : j ≤ 53334 := by omega
      clear hi hj hje hz HA
      go_wp2
      go_loopw [3] (fun s3 wr => ∃ (p : Nat) (u : ByteArray), s3 = .string u ∧ u.size = j + p ∧ Hid (p ≤ (4 - j % 4) % 4) ∧ Hid (u = ⟨((sxs l).map ltr ++ List.replicate p 61).toArray⟩) ∧ Hid (wr = w)) (fun s3 _ => j + 4 - (match s3 with | .string u => u.size | _ => 0))
      case atStart => exact ⟨0, t, rfl, by omega, Nat.zero_le _, by show t = _; rw [HT2.out]; simp, HW⟩
      case round =>
        obtain ⟨p, u, rfl, hus, HP, HU, HW2⟩ := hrel
        have hp := HP.out
        obtain ⟨us, hus2⟩ : ∃ us, j + p = us := ⟨_, rfl⟩
        have HUS : Hid (j + p = us) := hus2
        have husl : us ≤ 53340 := by omega
        obtain ⟨r, hr⟩ : ∃ r, us % 4 = r := ⟨_, rfl⟩
        have hri : (us : Int) % 4 = (r : Int) := by omega
        rw [hus2] at hus
        by_cases hm : r = 0
        · have hpz : p = (4 - j % 4) % 4 := by omega
          have HU2 : Hid (u.data.toList = pd4 ((sxs l).map ltr)) := by
            have e := HU.out
            rw [hpz] at e
            have hjl2 : ((sxs l).map ltr).length = j := by rw [← hts, HT2.out]; rfl
            show u.data.toList = _
            rw [e]
            unfold pd4
            rw [hjl2]
          subst hm
          clear hpz hp hus2 hr
          go_wp2
          go_loopw [3, 7] (fun s3 s7 wr => ∃ (u v : ByteArray) (n m : Nat), s3 = .string u ∧ s7 = .string v ∧ u.size = n ∧ v.size = m ∧ m ≤ 60000 ∧ n ≤ 60000 ∧ Hid (v.data.toList ++ lnz u.data.toList = ltrs l) ∧ Hid (wr = w)) (fun s3 _ _ => match s3 with | .string u => u.size | _ => 0)
          case atStart => exact ⟨u, ⟨#[]⟩, us, 0, rfl, rfl, hus, rfl, by omega, by omega, by show [] ++ lnz u.data.toList = ltrs l; rw [HU2.out]; rfl, HW2⟩
          case round =>
            obtain ⟨u, v, n, m, rfl, rfl, hn, hm, hm6, hn6, HE, HW3⟩ := hrel
            have hul : u.data.toList.length = n := by rw [← hn]; exact (Lib.size_eq u).symm
            have hvl : v.data.toList.length = m := by rw [← hm]; exact (Lib.size_eq v).symm
            have HUL : Hid (u.data.toList.length = n) := hul
            have HVL : Hid (v.data.toList.length = m) := hvl
            have hlim : (ltrs l).length ≤ 54055 := by rw [ltrs_len, HL.out]; omega
            have hlen2 := congrArg List.length HE.out
            rw [List.length_append, hvl] at hlen2
            clear hul hvl
            by_cases h76 : 76 < n
            · have hz : lnz u.data.toList = u.data.toList.take 76 ++ 10 :: lnz (u.data.toList.drop 76) := by rw [lnz_eq, if_pos (by rw [HUL.out]; exact h76)]
              rw [hz, List.length_append, List.length_take, HUL.out, List.length_cons] at hlen2
              have hm7 : m + 76 + 1 ≤ 60000 := by omega
              have HE2 : Hid ((v.data.toList ++ (u.data.toList.take 76 ++ [10])) ++ lnz (u.data.toList.drop 76) = ltrs l) := by
                show (v.data.toList ++ (u.data.toList.take 76 ++ [10])) ++ lnz (u.data.toList.drop 76) = ltrs l
                rw [← HE.out, hz]; simp
              clear hz hlen2 hlim
              go_wp2
              go_roundw
              case rel =>
                refine ⟨_, _, n - 76, m + 76 + 1, rfl, rfl, ?_, ?_, hm7, by omega, ?_, HW3⟩
                · rw [ByteArray.size_extract]; omega
                · rw [ByteArray.size_append, ByteArray.size_append, ByteArray.size_extract, hm, hn]
                  show m + (min 76 n - 0) + 1 = _
                  omega
                · show (v ++ u.extract 0 76 ++ ⟨#[10]⟩).data.toList ++ lnz (u.extract 76 n).data.toList = ltrs l
                  rw [← hn, Lib.extract_to_end, app_data, app_data, Lib.extract_data, List.drop_zero, ← HE2.out]
                  simp
              case measure =>
                show (u.extract 76 n).size < u.size
                rw [ByteArray.size_extract]; omega
            · have hz : lnz u.data.toList = if 0 < n then u.data.toList ++ [10] else [] := by rw [lnz_eq, if_neg (by rw [HUL.out]; exact h76), HUL.out]
              clear hlen2 hlim
              by_cases h0 : 0 < n
              · rw [if_pos h0] at hz
                have HE2 : Hid (v.data.toList ++ (u.data.toList ++ [10]) = ltrs l) := by
                  show v.data.toList ++ (u.data.toList ++ [10]) = ltrs l
                  rw [← HE.out, hz]
                clear hz
                go_wp2
                go_ret
                refine ⟨congrArg (fun z => Ending.returned (.string z)) (text_is ?_), HW3.out⟩
                rw [app_data, app_data, ← HE2.out, List.append_assoc]
              · rw [if_neg h0] at hz
                have HE2 : Hid (v.data.toList = ltrs l) := by
                  show v.data.toList = ltrs l
                  rw [← HE.out, hz]; simp
                clear hz
                go_wp2
                go_ret
                exact ⟨congrArg (fun z => Ending.returned (.string z)) (text_is HE2.out), HW3.out⟩
        · have hrb : ((r : Int) != 0) = true := bne_iff_ne.2 (by omega)
          have hp1 : p + 1 ≤ (4 - j % 4) % 4 := by omega
          have HP1 : Hid (p + 1 ≤ (4 - j % 4) % 4) := hp1
          clear hp hp1 hus2 hr
          go_wp2
          go_roundw
          case rel =>
            refine ⟨p + 1, _, rfl, ?_, HP1, ?_, HW2⟩
            · rw [ByteArray.size_append, hus, ← HUS.out]; rfl
            · show u ++ _ = _
              rw [HU.out, List.replicate_succ', ← List.append_assoc]
              exact str_app _ [61]
          case measure =>
            have := HUS.out
            have := HP1.out
            show j + 4 - (u ++ ⟨#[61]⟩).size < j + 4 - u.size
            rw [ByteArray.size_append, show (⟨#[61]⟩ : ByteArray).size = 1 from rfl]
            omega

end Go.Proofs.YtppmpofdhkgjmafDoor
