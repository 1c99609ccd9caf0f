/- A map keyed by strings, as a function of the key to the value that lies there. -/
import Derived.Maps.OwnSet
import Derived.Lib.Hide
namespace Go.Proofs.YtiljpnghahkjhaaDoor
open Go.RowKit Go.Maps Go.WideMaps
namespace Mp
def tokR (v : Value) : Option (DataW Value × List MemPlace) := some (.held v, [])
def keyS (s : ByteArray) : Lit := .string s.data.toList
theorem keyS_inj {s t : ByteArray} (h : keyS s = keyS t) : s = t := by
  unfold keyS at h
  injection h with h
  cases s; cases t
  congr
  exact Array.toList_inj.1 h
/-- Block b is a map of at most n entries; f: what lies at each key. -/
def MapAt (w : World) (P : Program) (k b n : Nat) (f : ByteArray → Option Value) : Prop :=
  ∃ D, w.ownsMap P k tokR b n D ∧ ∀ s, Maps.has D (keyS s) = (f s).isSome ∧ ∀ z, D.atKey (keyS s) (.held z) = .held ((f s).getD z)
def put (f : ByteArray → Option Value) (s : ByteArray) (v : Value) : ByteArray → Option Value := fun t => if t = s then some v else f t
section
variable {w w' : World} {P : Program} {k b n : Nat} {f : ByteArray → Option Value}
theorem MapAt.made (w : World) (P : Program) (k : Nat) : MapAt (w.alloc (.map #[] 0)) P k w.heap.size 0 (fun _ => none) :=
  ⟨_, World.ownsMap_made w P k tokR, fun _ => ⟨rfl, fun _ => rfl⟩⟩
theorem MapAt.kept {row : Option Nat} (h : MapAt w P k b n f) (hg : w.grownBy w' row) (hne : some b ≠ row) : MapAt w' P k b n f := by
  obtain ⟨D, h1, h2⟩ := h
  exact ⟨D, h1.kept hg hne, h2⟩
theorem MapAt.lt (h : MapAt w P k b n f) : b < w.heap.size := by
  obtain ⟨D, h1, _⟩ := h
  exact h1.lt
theorem MapAt.of (h : MapAt w P k b n f) (he : w'.heap[b]? = w.heap[b]?) : MapAt w' P k b n f := by
  obtain ⟨D, ⟨es, clock, hb, h1⟩, h2⟩ := h
  exact ⟨D, ⟨es, clock, he.trans hb, h1⟩, h2⟩
theorem MapAt.alloc (h : MapAt w P k b n f) (o : Obj) : MapAt (w.alloc o) P k b n f := by
  obtain ⟨D, h1, h2⟩ := h
  exact ⟨D, h1.alloc o, h2⟩
theorem MapAt.below {B : Nat} (h : MapAt w P k b n f) (hb : Below B w w') (hB : b < B) : MapAt w' P k b n f := h.of (hb.block b hB)
theorem MapAt.mono {n' : Nat} (h : MapAt w P k b n f) (hn : n ≤ n') : MapAt w P k b n' f := by
  obtain ⟨D, h1, h2⟩ := h
  exact ⟨D, h1.mono hn, h2⟩
variable {t e : TypeId}
theorem look_at (h : MapAt w P k b n f) (hk : P.underlying k = some .string) (ht : P.underlying t = some (.map k e)) {z : Value} (hz : (zeroValue e).run P w = .ok z w) {s : ByteArray} (hs : s.size ≤ maxLen) :
    (Instr.lookup t (.map (some b)) (.string s) false).run P w = .ok ((f s).getD z) w := by
  obtain ⟨D, h1, h2⟩ := h
  obtain ⟨v, ps, hrun, hv⟩ := h1.lookup (string_keyed hk) ht hz (zd := .held z) (zp := []) rfl (keyOf_string_mk hk hs)
  rw [show (Lit.string s.data.toList) = keyS s from rfl, (h2 s).2 z] at hv
  injection hv with hv
  injection hv with hv _
  injection hv with hv
  rw [hrun, hv]
theorem look_ok_at (h : MapAt w P k b n f) (hk : P.underlying k = some .string) (ht : P.underlying t = some (.map k e)) {z : Value} (hz : (zeroValue e).run P w = .ok z w) {s : ByteArray} (hs : s.size ≤ maxLen) :
    (Instr.lookup t (.map (some b)) (.string s) true).run P w = .ok (.tuple #[(f s).getD z, .bool (f s).isSome]) w := by
  obtain ⟨D, h1, h2⟩ := h
  obtain ⟨v, ps, hrun, hv⟩ := h1.look_ok (string_keyed hk) ht hz (zd := .held z) (zp := []) rfl (keyOf_string_mk hk hs)
  rw [show (Lit.string s.data.toList) = keyS s from rfl, (h2 s).2 z] at hv
  rw [show (Lit.string s.data.toList) = keyS s from rfl, (h2 s).1] at hrun
  injection hv with hv
  injection hv with hv _
  injection hv with hv
  rw [hrun, hv]
theorem look_nil_at (w : World) (hk : P.underlying k = some .string) (ht : P.underlying t = some (.map k e)) {z : Value} (hz : (zeroValue e).run P w = .ok z w) {s : ByteArray} (hs : s.size ≤ maxLen) :
    (Instr.lookup t (.map none) (.string s) false).run P w = .ok z w := by
  rw [Maps.look_nil false (string_keyed hk) ht hz (keyOf_string_mk hk hs)]
  rfl
theorem put_at (h : MapAt w P k b n f) (hk : P.underlying k = some .string) (ht : P.underlying t = some (.map k e)) (hn : n < maxLen) {s : ByteArray} (hs : s.size ≤ maxLen) (v : Value) :
    ∃ w', (Instr.mapUpdate t (.map (some b)) (.string s) v).run P w = .ok () w' ∧ MapAt w' P k b (n + 1) (put f s v) ∧ w.grownBy w' (some b) := by
  obtain ⟨D, h1, h2⟩ := h
  obtain ⟨w', hrun, h3, h4⟩ := h1.update (string_keyed hk) ht hn (keyOf_string_mk hk hs) (val := v) (d := .held v) (ps := []) rfl
  have hD := h1.isMap
  refine ⟨w', hrun, ⟨_, h3, fun s' => ?_⟩, h4⟩
  rw [show (Lit.string s.data.toList) = keyS s from rfl]
  by_cases hss : s' = s
  · subst hss
    have hkl : WideAt.IsKeyLit (keyS s') := by unfold keyS; trivial
    constructor
    · rw [Maps.has_put_same hD hkl]
      simp [put]
    · intro z
      rw [Maps.atKey_put_same hD hkl]
      simp [put]
  · have hne : keyS s' ≠ keyS s := fun e => hss (keyS_inj e)
    constructor
    · rw [Maps.has_put_other hne, (h2 s').1]
      simp [put, hss]
    · intro z
      rw [Maps.atKey_put_other hne, (h2 s').2 z]
      simp [put, hss]
end
section
variable {P : Program} (w : World) {ops : Array Oper} {rest : List Oper} {o : Oper} {a : Act} {Q : Exit → Act → World → Prop}
theorem wpList_look (hg : o.guard = none) (m x : Operand) (t : TypeId) (hop : o.op = Op.lookup t m x false) (k e : TypeId) (hk : P.underlying k = some .string) (ht : P.underlying t = some (.map k e)) {z : Value} (hz : (zeroValue e).run P w = .ok z w)
    (b n : Nat) (f : ByteArray → Option Value) (hm : a.eval m = .map (some b)) (h : MapAt w P k b n f) (s : ByteArray) (hx : a.eval x = .string s) (hs : s.size ≤ maxLen)
    (hK : wpList P ops Q rest (a.put o.dst ((f s).getD z)) w) : wpList P ops Q (o :: rest) a w := by
  refine wpList_plain hg fun K' hK' => ?_
  unfold Oper.wp
  simp [execOp, hop, hm, hx, look_at h hk ht hz hs, Result.andThen]
  exact hK' _ _ hK
theorem wpList_put (hg : o.guard = none) (m x v : Operand) (t : TypeId) (hop : o.op = Op.mapUpdate t m x v) (k e : TypeId) (hk : P.underlying k = some .string) (ht : P.underlying t = some (.map k e))
    (b n : Nat) (f : ByteArray → Option Value) (hm : a.eval m = .map (some b)) (h : MapAt w P k b n f) (hn : n < maxLen) (s : ByteArray) (hx : a.eval x = .string s) (hs : s.size ≤ maxLen) (val : Value) (hv : a.eval v = val)
    (hK : ∀ w', MapAt w' P k b (n + 1) (put f s val) → w.grownBy w' (some b) → wpList P ops Q rest (a.put o.dst undef) w') : wpList P ops Q (o :: rest) a w := by
  refine wpList_plain hg fun K' hK' => ?_
  obtain ⟨w', hrun, r1, r2⟩ := put_at h hk ht hn hs val
  unfold Oper.wp
  simp [execOp, hop, hm, hx, hv, hrun, Result.andThen]
  exact hK' _ _ (hK w' r1 r2)
end
end Mp
end Go.Proofs.YtiljpnghahkjhaaDoor
