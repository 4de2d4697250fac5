/-
  What a text is as a mail, as a box; the first fault of mails; what Print and Box give.
-/
import Derived.Test.YtppmpofdhkgjmafDoorRbo
import Derived.Test.YtppmpofdhkgjmafDoorMlr

namespace Go.Proofs.YtppmpofdhkgjmafDoor
open Go.RowKit Dist

/-- What a text is as a mail: the mail, or none; the fault. -/
def moM (o : Option Ml) : Mb := match o with
  | some m => mbl m
  | none => mz
def moE (o : Option Ml) : Int := match o with
  | some _ => 0
  | none => 5
def boL (o : Option (List Ml)) : List Mb := match o with
  | some l => l.map mbl
  | none => []
def boE (o : Option (List Ml)) : Int := match o with
  | some _ => 0
  | none => 5
/-- The first fault of mails; of a box. -/
def fsf : List Ml → Int
  | [] => 0
  | m :: l => if mlf m = 0 then fsf l else mlf m
def bxf (l : List Ml) : Int := if 16 < l.length then 3 else fsf l
theorem fsf_0 {l : List Ml} (h : ∀ m ∈ l, mlf m = 0) : fsf l = 0 := by
  induction l with
  | nil => rfl
  | cons m l ih => rw [fsf, if_pos (h m (by simp)), ih (fun x hx => h x (by simp [hx]))]
theorem fsf_at : ∀ (l : List Mb) (k : Nat), k < l.length → (∀ m ∈ l.take k, mlf (mlb m) = 0) → mlf (mlb (l.getD k mz)) ≠ 0 → fsf (l.map mlb) = mlf (mlb (l.getD k mz))
  | [], k, h, _, _ => absurd h (by simp)
  | m :: l, 0, _, _, h => by
    rw [List.map_cons, fsf, if_neg (by simpa using h)]; simp
  | m :: l, k + 1, hk, ht, h => by
    rw [List.map_cons, fsf, if_pos (ht m (by simp)), fsf_at l k (by simpa using hk) (fun x hx => ht x (by simp [hx])) (by simpa using h)]
    simp

theorem fsf_ok : ∀ {l : List Mb}, fsf (l.map mlb) = 0 → ∀ m ∈ l, mlOk (mlb m)
  | [], _, m, hm => absurd hm (by simp)
  | y :: l, h, m, hm => by
    rw [List.map_cons, fsf] at h
    split at h
    · rename_i h0
      rcases List.mem_cons.1 hm with rfl | hm
      · exact mlf_0.1 h0
      · exact fsf_ok h m hm
    · rename_i h0; exact absurd h h0

theorem mls_one {W : World} {b : Nat} {F S D : ByteArray} {X : List UInt8} {am : Option Addr} {cm : Nat} (h0 : W.cell? ⟨b, 0, none⟩ = some (.string F)) (h1 : W.cell? ⟨b, 1, none⟩ = some (.string S)) (h2 : W.cell? ⟨b, 2, none⟩ = some (.string D)) (h3 : W.cell? ⟨b, 3, none⟩ = some (.slice am X.length cm)) (hx : Bya W am X cm) : Mls W (some ⟨b, 0, none⟩) [(F, S, D, X)] := by
  intro i hi
  obtain rfl : i = 0 := by simpa using hi
  exact ⟨b, 0, am, cm, rfl, h0, h1, h2, h3, hx⟩

/-- What Print gives, what Box gives. -/
def prT (m : Ml) : ByteArray := if mlf m = 0 then ⟨(mtx m).toArray⟩ else ⟨#[]⟩
def bxT (l : List Ml) : ByteArray := if bxf l = 0 then ⟨(btx l).toArray⟩ else ⟨#[]⟩

end Go.Proofs.YtppmpofdhkgjmafDoor
