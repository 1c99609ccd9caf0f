/- Layer 10, plain: what is said of two types together; put down by their regions alone. -/
import Derived.Test.YtebnonbfjkielaaTypesA
import Derived.Test.YtebnonbfjkielaaVaryA
namespace Go.Proofs.Ytebnonbfjkielaa
open Tr Ts Vy
namespace Sb
abbrev Ps := List (Int × Int)
def sayP (x y : Int) (v : Nat) : Ps := if v = 1 then [(x, y)] else if v = 2 then [(y, x)] else if v = 3 then [(x, y), (y, x)] else []
def regsQ (W : Ws) (nm : ByteArray) (v : Nat) : Nat → List Int → List Int → Ps
  | i, x :: l, y :: m => sayP x y (thr v (wayOf W nm i)) ++ regsQ W nm v (i + 1) l m
  | _, _, _ => []
mutual
def lookP (W : Ws) : Ty → Ty → Nat → Ps
  | .mk k nm u r rs ar, .mk _ _ _ r' rs' ar', v =>
    if k = 5 then regsQ W nm v 0 rs rs' ++ lookQS W nm rs.length ar ar' v
    else if k = 7 then sayP r r' v ++ lookQL W ar ar' (if u then thr v 3 else v)
    else if k = 8 then sayP r r' v ++ lookQL W ar ar' v
    else lookQL W ar ar' v
def lookQL (W : Ws) : List Ty → List Ty → Nat → Ps
  | x :: l, y :: m, v => lookP W x y v ++ lookQL W l m v
  | [], _, _ => []
  | _ :: _, [], _ => []
def lookQS (W : Ws) (nm : ByteArray) : Nat → List Ty → List Ty → Nat → Ps
  | q, x :: l, y :: m, v => lookP W x y (thr v (wayOf W nm q)) ++ lookQS W nm (q + 1) l m v
  | _, [], _, _ => []
  | _, _ :: _, [], _ => []
end
/-- Each region of a type's, in order, with its way; a parameter's own one says nothing. -/
def regsW (W : Ws) (nm : ByteArray) (v : Nat) : Nat → Nat → List Nat
  | _, 0 => []
  | i, n + 1 => thr v (wayOf W nm i) :: regsW W nm v (i + 1) n
mutual
def waysP (W : Ws) : Ty → Nat → List Nat
  | .mk k nm u _ rs ar, v =>
    if k = 5 then regsW W nm v 0 rs.length ++ waysQS W nm rs.length ar v
    else if k = 7 then v :: waysQL W ar (if u then thr v 3 else v)
    else if k = 8 then v :: waysQL W ar v
    else if k = 9 then 0 :: waysQL W ar v
    else waysQL W ar v
def waysQL (W : Ws) : List Ty → Nat → List Nat
  | [], _ => []
  | x :: l, v => waysP W x v ++ waysQL W l v
def waysQS (W : Ws) (nm : ByteArray) : Nat → List Ty → Nat → List Nat
  | _, [], _ => []
  | q, x :: l, v => waysP W x (thr v (wayOf W nm q)) ++ waysQS W nm (q + 1) l v
end
/-- What regions say, one by one, in their ways. -/
def zipS : List Nat → List Int → List Int → Ps
  | w :: ws, x :: l, y :: m => sayP x y w ++ zipS ws l m
  | [], _, _ => []
  | _ :: _, [], _ => []
  | _ :: _, _ :: _, [] => []
theorem zipS_append : ∀ {ws : List Nat} {l m : List Int} (ws' : List Nat) (l' m' : List Int), ws.length = l.length → ws.length = m.length → zipS (ws ++ ws') (l ++ l') (m ++ m') = zipS ws l m ++ zipS ws' l' m'
  | [], [], [], _, _, _, _, _ => rfl
  | w :: ws, x :: l, y :: m, ws', l', m', h, k => by
    rw [List.cons_append, List.cons_append, List.cons_append, zipS, zipS, zipS_append ws' l' m' (by simpa using h) (by simpa using k), List.append_assoc]
  | [], _ :: _, _, _, _, _, h, _ => by simp at h
  | [], [], _ :: _, _, _, _, _, k => by simp at k
  | _ :: _, [], _, _, _, _, h, _ => by simp at h
  | _ :: _, _ :: _, [], _, _, _, _, k => by simp at k
theorem regsW_length (W : Ws) (nm : ByteArray) (v : Nat) : ∀ i n, (regsW W nm v i n).length = n
  | _, 0 => rfl
  | i, n + 1 => by rw [regsW, List.length_cons, regsW_length W nm v (i + 1) n]
theorem regsQ_zip (W : Ws) (nm : ByteArray) (v : Nat) : ∀ (l m : List Int) (i : Nat), l.length = m.length → regsQ W nm v i l m = zipS (regsW W nm v i l.length) l m
  | [], [], _, _ => by rw [regsQ]; rfl; intro _ _ _ _ h; cases h
  | x :: l, y :: m, i, h => by rw [regsQ, List.length_cons, regsW, zipS, regsQ_zip W nm v l m (i + 1) (by simpa using h)]
  | [], _ :: _, _, h => by simp at h
  | _ :: _, [], _, h => by simp at h
end Sb
end Go.Proofs.Ytebnonbfjkielaa
