/- Layer 7: a type's text put into a builder, where only references and whole numbers are in it. -/
import Derived.Test.YtiljpnghahkjhaaDoorTypesK
import Derived.Test.YtiljpnghahkjhaaDoorTypesL
namespace Go.Proofs.YtiljpnghahkjhaaDoor
open Go.RowKit Go.Deep Tr
namespace Ts
def bMut : ByteArray := ⟨#[109, 117, 116]⟩
def bLt : ByteArray := ⟨#[60]⟩
def bGt : ByteArray := ⟨#[62]⟩
mutual
/-- Only references and whole numbers, of small regions. -/
def Pl : Ty → Prop
  | .mk k _ _ r _ ar => (k = 1 ∨ k = 7) ∧ (0 ≤ r ∧ r < 100) ∧ PlL ar
def PlL : List Ty → Prop
  | [] => True
  | x :: l => Pl x ∧ PlL l
end
def ownC (l : List Int) : List Value := l.flatMap fun r => Lib.strCells (bAmp ++ decB r)
def mutC (k : Int) (u : Bool) : List Value := if k = 7 ∧ u = true then Lib.strCells bMut else []
mutual
def textC : Ty → List Value
  | .mk k nm u r rs ar => Lib.strCells (wordP k) ++ (ownC (ownP (.mk k nm u r rs ar)) ++ (mutC k u ++ textL ar))
def textL : List Ty → List Value
  | [] => []
  | x :: l => Lib.strCells bLt ++ (textC x ++ (Lib.strCells bGt ++ textL l))
end
theorem PlL.get : ∀ {l : List Ty}, PlL l → ∀ {j : Nat} (h : j < l.length), Pl l[j]
  | _ :: _, h, 0, _ => h.1
  | _ :: l, h, _ + 1, hj => PlL.get (l := l) h.2 (Nat.lt_of_succ_lt_succ hj)
abbrev BuF (b : Nat) (bs : List Value) (W : World) : Prop := Lib.IsBuilderF 64 5 b b bs W
theorem bu_below {b : Nat} {bs : List Value} {W W1 : World} (h : BuF b bs W) (hb : Below W.heap.size W W1) : BuF b bs W1 := by
  have one : ∀ p, Lib.BuilderAtF 64 5 b b p bs W → Lib.BuilderAtF 64 5 b b p bs W1 := fun p h => by
    have hlt := h.lt
    obtain ⟨hB, v, hv, hown, hne⟩ := h
    exact ⟨hB, v, (hb.block b hlt).trans hv, hown.kept (row := none) ⟨hb.os, hb.tape, hb.output, hb.size, fun k hl _ => hb.block k hl⟩ (by cases hv : v.ownBlock <;> simp), hne⟩
  exact h.elim (fun h => .inl (one _ h)) (fun h => .inr (one _ h))
theorem bu_lt {b : Nat} {bs : List Value} {W : World} (h : BuF b bs W) : b < W.heap.size := h.elim (·.lt) (·.lt)
theorem kp_write {b : Nat} {W W1 : World} (h : Below b W W1) (k : Lib.OthersKept 5 (some b) W W1) : Kp 5 (some b) b W W1 := by
  refine ⟨h.os, h.tape, h.output, h.size, fun i hi _ _ => h.block i hi, fun i hl hc hn => ?_⟩
  have e := Array.getElem?_eq_getElem hl
  rw [e]
  exact k i _ e hc fun cs f eq => hn cs f (by rw [e, eq])
theorem rowI_is {W : World} {b t : Nat} {r : Int} (h : Is W b t #[.int .i64 r]) : RowI W (.slice (some ⟨b, 0, none⟩) 1 1) [r] := by
  refine rowI_mk (l := [r]) (fun _ => ⟨b, 0, rfl, h.lt, fun i u hu => ?_⟩) (by unfold maxLen; simp)
  have hc := h.at_ i
  rw [Nat.zero_add]
  rw [hc]
  simpa [intsC] using hu
theorem own_keep {w : World} {b : Nat} (hbw : b < w.heap.size) {k : Int} (hk : k = 1 ∨ k = 7) (nm : ByteArray) (u : Bool) (r : Int) (rs : List Int) (ar : List Ty) (R : Option Addr) (lr cr : Nat) (A : Option Addr) (la ca : Nat) :
    Calls Tryd.prog 45 #[.agg #[.int .i64 k, .string nm, .bool u, .int .i64 r, .slice R lr cr, .slice A la ca]] w fun e w' => ∃ v, e = .returned v ∧ Below w.heap.size w w' ∧ (∀ W', Kp 5 (some b) b w' W' → RowI W' v (ownP (.mk k nm u r rs ar))) := by
  have B0 := Lib.hid (box_in w [.int .i64 k, .string nm, .bool u, .int .i64 r, .slice R lr cr, .slice A la ca])
  have hbn := Lib.hid hbw
  clear hbw
  rcases hk with rfl | rfl
  · rw [own_0 (by decide) (by decide)]
    go_enter Tryd.func45, Tryd.ntmps45
    go_wp2
    go_ret
    exact ⟨_, rfl, B0.out, fun W' _ => RowI.nil _⟩
  · rw [own_7 (by decide) (.inl rfl)]
    go_enter Tryd.func45, Tryd.ntmps45
    go_wp2
    go_ret
    refine ⟨_, rfl, B0.out.alloc (by simp) _, fun W' k => rowI_is (t := 3) (k.is ?_ (by decide) ?_)⟩
    · have := Is.made (w.alloc (.cells #[.int .i64 7, .string nm, .bool u, .int .i64 r, .slice R lr cr, .slice A la ca] 25)) 3 #[.int .i64 r]
      simpa using this
    · intro e
      injection e with e
      have := hbn.out
      omega
end Ts
end Go.Proofs.YtiljpnghahkjhaaDoor
