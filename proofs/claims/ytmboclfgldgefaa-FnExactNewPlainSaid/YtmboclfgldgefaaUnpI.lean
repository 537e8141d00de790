/-
  The contract of UnpackCell: what it tells of all bytes, as a function of the bytes.
-/
import Derived.Test.YtmboclfgldgefaaUnp
namespace Go.Proofs.Ytmboclfgldgefaa
open Go.RowKit

/-- What UnpackCell tells. -/
structure Cel where
  q : Int
  f : Int
  p : Int
  l : Int
  t : Int
  k : Int
  v : Int
  s : ByteArray

def celV (r : Cel) : Value := .agg #[.int .i64 r.q, .int .i64 r.f, .int .i64 r.p, .int .i64 r.l, .int .i64 r.t, .int .i64 r.k, .int .i64 r.v, .string r.s]
def errC : Cel := ⟨5, 0, 0, 0, 0, 0, 0, ⟨#[]⟩⟩
def textC (zs : List Int) : ByteArray := strOfNums (zs.drop 6)
def stubC (zs : List Int) : Cel := if zs.length = 3 ∧ stubB (zs.getD 1 0) (zs.getD 2 0) = true then ⟨0, 1, zs.getD 1 0, zs.getD 2 0, 0, 0, 0, ⟨#[]⟩⟩ else errC
def rowC (zs : List Int) : Cel :=
  if 6 ≤ zs.length ∧ (zs.length : Int) = 6 + zs.getD 5 0 ∧ faultI (zs.getD 1 0) (zs.getD 2 0) (zs.getD 3 0 * 256 + zs.getD 4 0) (textC zs) = 0
  then ⟨0, zs.getD 0 0, 0, 0, zs.getD 1 0, zs.getD 2 0, zs.getD 3 0 * 256 + zs.getD 4 0, textC zs⟩ else errC
def unp (zs : List Int) : Cel := if zs = [] then errC else if zs.getD 0 0 = 1 then stubC zs else if zs.getD 0 0 = 0 ∨ zs.getD 0 0 = 2 then rowC zs else errC

theorem celV_form (r : Cel) : ∃ q f p l t k v s, r = Cel.mk q f p l t k v s := ⟨_, _, _, _, _, _, _, _, rfl⟩

theorem getD_range {zs : List Int} (hz : ∀ z ∈ zs, 0 ≤ z ∧ z ≤ 255) (i : Nat) : 0 ≤ zs.getD i 0 ∧ zs.getD i 0 ≤ 255 := by
  by_cases h : i < zs.length
  · have : zs.getD i 0 = zs[i] := by simp [List.getD, h]
    rw [this]; exact hz _ (List.getElem_mem h)
  · have : zs.getD i 0 = 0 := by simp [List.getD, List.getElem?_eq_none (Nat.le_of_not_lt h)]
    rw [this]; omega

theorem getD_drop6 (zs : List Int) (i : Nat) : (zs.drop 6).getD i 0 = zs.getD (6 + i) 0 := by simp [List.getD, List.getElem?_drop]

theorem textC_size (zs : List Int) : (textC zs).size = zs.length - 6 := by rw [textC, strOfNums_size, List.length_drop]

end Go.Proofs.Ytmboclfgldgefaa




