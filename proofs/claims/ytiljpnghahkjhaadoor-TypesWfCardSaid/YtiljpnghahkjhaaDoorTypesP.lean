/- Layer 7: the law's own small type. -/
import Derived.Test.YtiljpnghahkjhaaDoorTypesO
import Derived.Test.YtiljpnghahkjhaaDoorTypesJ
import Derived.Test.YtiljpnghahkjhaaDoorIntsEq
namespace Go.Proofs.YtiljpnghahkjhaaDoor
open Go.RowKit Go.Deep Tr
namespace Ts
def xI : Ty := .mk 1 ⟨#[]⟩ false 0 [] []
def xR : Ty := .mk 7 ⟨#[]⟩ true 2 [] [xI]
def xT : Ty := .mk 7 ⟨#[]⟩ false 1 [] [xR]
theorem ty_leaf (W : World) : TyAt W 1 xI [.int .i64 1, .string ⟨#[]⟩, .bool false, .int .i64 0, .slice none 0 0, .slice none 0 0] :=
  ⟨none, 0, none, 0, rfl, ⟨⟨Nat.zero_le _, Nat.zero_le _⟩, ListAt.none _ _ _ _⟩, ListAt.none _ _ _ _⟩
theorem list_one {W : World} {b t n : Nat} {cs : List Value} {x : Ty} (h : TyAt W n x cs) (hi : Is W b t cs.toArray) : ListAt W 6 (TyAt W n) (some ⟨b, 0, none⟩) [x] := by
  refine ⟨cs, ⟨by rw [h.one.1]; rfl, by unfold maxLen; simp⟩, ⟨fun _ => ⟨b, 0, rfl, hi.lt, fun i u hu => ?_⟩, h.one.2⟩, fun i hi => ?_⟩
  · rw [Nat.zero_add, hi.at_ i]
    simpa using hu
  · have h0 : i = 0 := by simp at hi; exact hi
    subst h0
    rw [Nat.zero_mul, List.drop_zero, List.take_of_length_le (Nat.le_of_eq h.one.1)]
    exact h
theorem ty_ref {W : World} {b t n : Nat} {cs : List Value} {x : Ty} (h : TyAt W n x cs) (hi : Is W b t cs.toArray) (u : Bool) (r : Int) :
    TyAt W (n + 1) (.mk 7 ⟨#[]⟩ u r [] [x]) [.int .i64 7, .string ⟨#[]⟩, .bool u, .int .i64 r, .slice none 0 0, .slice (some ⟨b, 0, none⟩) 1 1] :=
  ⟨none, 0, some ⟨b, 0, none⟩, 1, rfl, ⟨⟨Nat.zero_le _, Nat.zero_le _⟩, ListAt.none _ _ _ _⟩, list_one h hi⟩
theorem xT_all : allP xT = [1, 2] := by simp [allP, xT, xR, xI, gath, gathL, ownP]
theorem xT_wf : wfP (fun _ => []) xT = [(2, 1)] := by simp [wfP, xT, xR, xI, gath, gathL, ownP, wf1, crossP]
theorem xT_pl : Pl xT := by simp [xT, xR, xI, Pl, PlL]
def xTtext : List UInt8 := [38, 49, 60, 38, 50, 109, 117, 116, 60, 105, 110, 116, 62, 62]
theorem xT_text : textC xT = Lib.byteCells xTtext := by
  have e1 : decB 1 = ⟨#[49]⟩ := by simp [decB, Lib.decDigits]
  have e2 : decB 2 = ⟨#[50]⟩ := by simp [decB, Lib.decDigits]
  have s1 : Lib.strCells (bAmp ++ ⟨#[49]⟩) = Lib.byteCells [38, 49] := rfl
  have s2 : Lib.strCells (bAmp ++ ⟨#[50]⟩) = Lib.byteCells [38, 50] := rfl
  simp [xT, xR, xI, textC, textL, ownC, ownP, mutC, e1, e2, s1, s2]
  rfl
end Ts
end Go.Proofs.YtiljpnghahkjhaaDoor
