/- Layer 13: a map keyed by whole numbers as a function; what stands while some blocks change. -/
import Derived.Maps.OwnSet
import Derived.Lib.Hide
import Derived.Test.YtbhjdpaicfnfcaaBox
namespace Go.Proofs.Ytbhjdpaicfnfcaa
open Go.RowKit Go.Maps Go.WideMaps Go.ChangeMaps Go.MapKept
namespace Hp
/-- w' is w, but for the blocks in S, and new ones. -/
structure Mod (S : Nat → Prop) (w w' : World) : Prop where
  os : w'.os = w.os
  tape : w'.tape = w.tape
  output : w'.output = w.output
  size : w.heap.size ≤ w'.heap.size
  block : ∀ k, k < w.heap.size → ¬S k → w'.heap[k]? = w.heap[k]?
theorem Mod.refl (S : Nat → Prop) (w : World) : Mod S w w := ⟨rfl, rfl, rfl, Nat.le_refl _, fun _ _ _ => rfl⟩
theorem Mod.trans {S : Nat → Prop} {x y z : World} (h : Mod S x y) (k : Mod S y z) : Mod S x z :=
  ⟨k.os.trans h.os, k.tape.trans h.tape, k.output.trans h.output, Nat.le_trans h.size k.size, fun i hi hs => (k.block i (Nat.lt_of_lt_of_le hi h.size) hs).trans (h.block i hi hs)⟩
theorem Mod.mono {S T : Nat → Prop} {x y : World} (h : Mod S x y) (hST : ∀ k, k < x.heap.size → S k → T k) : Mod T x y := ⟨h.os, h.tape, h.output, h.size, fun k hk hT => h.block k hk fun hS => hT (hST k hk hS)⟩
/-- A step behind another one, of what stood from the beginning on. -/
theorem Mod.andThen {S T : Nat → Prop} {x y z : World} (h : Mod S x y) (k : Mod T y z) (hT : ∀ i, i < x.heap.size → T i → S i) : Mod S x z :=
  ⟨k.os.trans h.os, k.tape.trans h.tape, k.output.trans h.output, Nat.le_trans h.size k.size, fun i hi hs => (k.block i (Nat.lt_of_lt_of_le hi h.size) (fun ht => hs (hT i hi ht))).trans (h.block i hi hs)⟩
theorem Mod.alloc {S : Nat → Prop} {x y : World} (h : Mod S x y) (o : Obj) : Mod S x (y.alloc o) := ⟨h.os, h.tape, h.output, Nat.le_trans h.size (by simp), fun k hk hS => (Below.heap_alloc y o k (Nat.lt_of_lt_of_le hk h.size)).trans (h.block k hk hS)⟩
theorem Mod.drew {S : Nat → Prop} {x y : World} (h : Mod S x y) : Mod S x y.drew := ⟨h.os, h.tape, h.output, h.size, h.block⟩
theorem Mod.drewN {S : Nat → Prop} {x y : World} (h : Mod S x y) (q : Nat) : Mod S x (y.drewN q) := ⟨h.os, h.tape, h.output, h.size, h.block⟩
theorem Mod.put {S : Nat → Prop} {x y : World} (h : Mod S x y) {b : Nat} (hb : b < x.heap.size → S b) (i : Nat) (u : Value) : Mod S x (y.setCell ⟨b, i, none⟩ u) :=
  ⟨h.os, h.tape, h.output, Nat.le_trans h.size (by simp [World.setCell]), fun k hk hS => (Below.heap_setCell _ _ _ _ (fun e => hS (by have e1 : k = b := e; subst e1; exact hb hk))).trans (h.block k hk hS)⟩
theorem Mod.grown {S : Nat → Prop} {x y z : World} {r : Option Nat} (h : Mod S x y) (k : y.grownBy z r) (hr : ∀ i, r = some i → i < x.heap.size → S i) : Mod S x z :=
  ⟨k.os.trans h.os, k.tape.trans h.tape, k.output.trans h.output, Nat.le_trans h.size k.size, fun i hi hs => (k.block i (Nat.lt_of_lt_of_le hi h.size) (fun e => hs (hr i e.symm hi))).trans (h.block i hi hs)⟩
theorem Mod.of {S : Nat → Prop} {x y : World} (h : Below x.heap.size x y) : Mod S x y := ⟨h.os, h.tape, h.output, h.size, fun k hk _ => h.block k hk⟩
theorem Mod.is {S : Nat → Prop} {x y : World} (h : Mod S x y) {b : Nat} {t : TypeId} {cs : Array Value} (hi : Is x b t cs) (hb : ¬S b) : Is y b t cs := hi.of (h.block b hi.lt hb)
theorem Mod.below {S : Nat → Prop} {x y z : World} {A : Nat} (h : Mod S y z) (hb : Below A x y) (hA : A ≤ y.heap.size) (hS : ∀ k, S k → A ≤ k) : Below A x z :=
  ⟨h.os.trans hb.os, h.tape.trans hb.tape, h.output.trans hb.output, Nat.le_trans hb.size h.size, fun k hk => (h.block k (Nat.lt_of_lt_of_le hk hA) fun hs => absurd hk (Nat.not_lt.2 (hS k hs))).trans (hb.block k hk)⟩
theorem Mod.below0 {S : Nat → Prop} {y z : World} (h : Mod S y z) (hS : ∀ k, S k → y.heap.size ≤ k) : Below y.heap.size y z := h.below (Below.refl _ _) (Nat.le_refl _) hS
theorem is_ne {w : World} {b b' : Nat} {t t' : TypeId} {cs cs' : Array Value} (h : Is w b t cs) (h' : Is w b' t' cs') (hn : t ≠ t') : b ≠ b' := by
  rintro rfl
  unfold Is at h h'
  rw [h] at h'
  injection h' with h'
  injection h' with _ e
  exact hn e
def tokR (v : Value) : Option (DataW Value × List MemPlace) := some (.held v, [])
def keyI (a : Int) : Lit := .int .i64 a
theorem keyI_inj {s t : Int} (h : keyI s = keyI t) : s = t := by
  unfold keyI at h
  injection h
def put (f : Int → Option Value) (s : Int) (v : Value) : Int → Option Value := fun t => if t = s then some v else f t
def del (f : Int → Option Value) (s : Int) : Int → Option Value := fun t => if t = s then none else f t
/-- Block b is a map of n entries, m at most; f: what lies at each key. -/
def MapIn (w : World) (P : Program) (k b n m : Nat) (f : Int → Option Value) : Prop :=
  ∃ D, w.ownsMap P k tokR b m D ∧ Tidy D ∧ Maps.size D = n ∧ ∀ s, Maps.has D (keyI s) = (f s).isSome ∧ ∀ z, D.atKey (keyI s) (.held z) = .held ((f s).getD z)
section
variable {w w' : World} {P : Program} {k b n m : Nat} {f : Int → Option Value}
theorem MapIn.made (w : World) (P : Program) (k : Nat) : MapIn (w.alloc (.map #[] 0)) P k w.heap.size 0 0 (fun _ => none) :=
  ⟨_, World.ownsMap_made w P k tokR, Maps.tidy_empty, rfl, fun _ => ⟨rfl, fun _ => rfl⟩⟩
theorem MapIn.lt (h : MapIn w P k b n m f) : b < w.heap.size := by
  obtain ⟨D, h1, _⟩ := h
  exact h1.lt
theorem MapIn.of (h : MapIn w P k b n m f) (he : w'.heap[b]? = w.heap[b]?) : MapIn w' P k b n m f := by
  obtain ⟨D, ⟨es, clock, hb, h1⟩, h2⟩ := h
  exact ⟨D, ⟨es, clock, he.trans hb, h1⟩, h2⟩
theorem MapIn.alloc (h : MapIn w P k b n m f) (o : Obj) : MapIn (w.alloc o) P k b n m f := h.of (Below.heap_alloc w o b h.lt)
theorem MapIn.below {B : Nat} (h : MapIn w P k b n m f) (hb : Below B w w') (hB : b < B) : MapIn w' P k b n m f := h.of (hb.block b hB)
theorem MapIn.mod {S : Nat → Prop} (h : MapIn w P k b n m f) (hm : Mod S w w') (hb : ¬S b) : MapIn w' P k b n m f := h.of (hm.block b h.lt hb)
variable {t e : TypeId}
theorem lookI (h : MapIn w P k b n m f) (hk : P.underlying k = some (.int .i64)) (ht : P.underlying t = some (.map k e)) {z : Value} (hz : (zeroValue e).run P w = .ok z w) {s : Int} (hs : (Lit.int .i64 s).wf = true) :
    (Instr.lookup t (.map (some b)) (.int .i64 s) false).run P w = .ok ((f s).getD z) w := by
  obtain ⟨D, h1, _, _, h2⟩ := h
  obtain ⟨v, ps, hrun, hv⟩ := h1.lookup (int_keyed hk) ht hz (zd := .held z) (zp := []) rfl (keyOf_int_mk hk hs)
  rw [show (Lit.int .i64 s) = keyI s from rfl, (h2 s).2 z] at hv
  injection hv with hv
  injection hv with hv _
  injection hv with hv
  rw [hrun, hv]
theorem putI (h : MapIn w P k b n m f) (hk : P.underlying k = some (.int .i64)) (ht : P.underlying t = some (.map k e)) (hn : m < maxLen) {s : Int} (hs : (Lit.int .i64 s).wf = true) (v : Value) :
    ∃ w', (Instr.mapUpdate t (.map (some b)) (.int .i64 s) v).run P w = .ok () w' ∧ MapIn w' P k b (if (f s).isSome then n else n + 1) (m + 1) (put f s v) ∧ w.mapTurned w' b := by
  obtain ⟨D, h1, hT, hsz, h2⟩ := h
  obtain ⟨w', hrun, h3, h4⟩ := h1.store (int_keyed hk) ht hn (keyOf_int_mk hk hs) (val := v) (d := .held v) (ps := []) rfl
  have hkl : WideAt.IsKeyLit (keyI s) := by unfold keyI; trivial
  refine ⟨w', hrun, ⟨_, h3, hT.put hkl _, ?_, fun s' => ?_⟩, h4⟩
  · rw [show (Lit.int .i64 s) = keyI s from rfl, Maps.size_put hT, (h2 s).1, hsz]
  rw [show (Lit.int .i64 s) = keyI s from rfl]
  by_cases hss : s' = s
  · subst hss
    constructor
    · rw [Maps.has_put_same hT.isMap hkl]
      simp [put]
    · intro z
      rw [Maps.atKey_put_same hT.isMap hkl]
      simp [put]
  · have hne : keyI s' ≠ keyI s := fun e => hss (keyI_inj e)
    constructor
    · rw [Maps.has_put_other hne, (h2 s').1]
      simp [put, hss]
    · intro z
      rw [Maps.atKey_put_other hne, (h2 s').2 z]
      simp [put, hss]
theorem delI (h : MapIn w P k b n m f) (hk : P.underlying k = some (.int .i64)) (ht : P.underlying t = some (.map k e)) {s : Int} (hs : (Lit.int .i64 s).wf = true) (ty : TypeId) :
    ∃ w', (Builtin.delete_ #[t, k] ty #[.map (some b), .int .i64 s]).run P w = .ok (.tuple #[]) w' ∧ MapIn w' P k b (if (f s).isSome then n - 1 else n) m (del f s) ∧ w.mapTurned w' b := by
  obtain ⟨D, h1, hT, hsz, h2⟩ := h
  obtain ⟨w', hrun, h3, h4⟩ := h1.drop (int_keyed hk) ht (keyOf_int_mk hk hs) ty
  refine ⟨w', hrun, ⟨_, h3, hT.del _, ?_, fun s' => ?_⟩, h4⟩
  · have := Maps.size_del (k := keyI s) hT
    rw [(h2 s).1, hsz] at this
    rw [show (Lit.int .i64 s) = keyI s from rfl]
    split
    · next h => rw [if_pos h] at this; omega
    · next h => rw [if_neg h] at this; omega
  rw [show (Lit.int .i64 s) = keyI s from rfl]
  by_cases hss : s' = s
  · subst hss
    constructor
    · rw [Maps.has_del_same]
      simp [del]
    · intro z
      rw [Maps.atKey_del_same]
      simp [del]
  · have hne : keyI s' ≠ keyI s := fun e => hss (keyI_inj e)
    constructor
    · rw [Maps.has_del_other hne, (h2 s').1]
      simp [del, hss]
    · intro z
      rw [Maps.atKey_del_other hne, (h2 s').2 z]
      simp [del, hss]
theorem turned_mod {S : Nat → Prop} (h : w.mapTurned w' b) (hb : S b) : Mod S w w' := by
  obtain ⟨es, clock, es', clock', hbb, rfl⟩ := h
  exact ⟨rfl, rfl, rfl, by simp [setBlock], fun i _ hi => heap_setBlock_other hbb _ (fun e => hi (by rw [e]; exact hb))⟩
end
section
variable {P : Program} (w : World) {ops : Array Oper} {rest : List Oper} {o : Oper} {a : Act} {Q : Exit → Act → World → Prop}
theorem wpList_lookI (hg : o.guard = none) (m x : Operand) (t : TypeId) (hop : o.op = Op.lookup t m x false) (k e : TypeId) (hk : P.underlying k = some (.int .i64)) (ht : P.underlying t = some (.map k e)) {z : Value} (hz : (zeroValue e).run P w = .ok z w)
    (b n mm : Nat) (f : Int → Option Value) (hm : a.eval m = .map (some b)) (h : MapIn w P k b n mm f) (s : Int) (hx : a.eval x = .int .i64 s) (hs : (Lit.int .i64 s).wf = true)
    (hK : wpList P ops Q rest (a.put o.dst ((f s).getD z)) w) : wpList P ops Q (o :: rest) a w := by
  refine wpList_plain hg fun K' hK' => ?_
  unfold Oper.wp
  simp [execOp, hop, hm, hx, lookI h hk ht hz hs, Result.andThen]
  exact hK' _ _ hK
theorem wpList_putI (hg : o.guard = none) (m x v : Operand) (t : TypeId) (hop : o.op = Op.mapUpdate t m x v) (k e : TypeId) (hk : P.underlying k = some (.int .i64)) (ht : P.underlying t = some (.map k e))
    (b n mm : Nat) (f : Int → Option Value) (hm : a.eval m = .map (some b)) (h : MapIn w P k b n mm f) (hn : mm < maxLen) (s : Int) (hx : a.eval x = .int .i64 s) (hs : (Lit.int .i64 s).wf = true) (val : Value) (hv : a.eval v = val)
    (hK : ∀ w', MapIn w' P k b (if (f s).isSome then n else n + 1) (mm + 1) (put f s val) → w.mapTurned w' b → wpList P ops Q rest (a.put o.dst undef) w') : wpList P ops Q (o :: rest) a w := by
  refine wpList_plain hg fun K' hK' => ?_
  obtain ⟨w', hrun, r1, r2⟩ := putI h hk ht hn hs val
  unfold Oper.wp
  simp [execOp, hop, hm, hx, hv, hrun, Result.andThen]
  exact hK' _ _ (hK w' r1 r2)
theorem wpList_delI (hg : o.guard = none) (m x : Operand) (t k : TypeId) (hop : o.op = Op.call { callee := Callee.builtin Builtin.delete, args := #[m, x], argTypes := #[t, k] }) (e : TypeId) (hk : P.underlying k = some (.int .i64)) (ht : P.underlying t = some (.map k e))
    (b n mm : Nat) (f : Int → Option Value) (hm : a.eval m = .map (some b)) (h : MapIn w P k b n mm f) (s : Int) (hx : a.eval x = .int .i64 s) (hs : (Lit.int .i64 s).wf = true)
    (hK : ∀ w', MapIn w' P k b (if (f s).isSome then n - 1 else n) mm (del f s) → w.mapTurned w' b → wpList P ops Q rest (a.put o.dst (.tuple #[])) w') : wpList P ops Q (o :: rest) a w := by
  refine wpList_plain hg fun K' hK' => ?_
  obtain ⟨w', hrun, r1, r2⟩ := delI h hk ht hs o.type
  unfold Oper.wp
  simp [execOp, hop, resolve, invoke, builtin, hm, hx, hrun, Result.andThen]
  exact hK' _ _ (hK w' r1 r2)
theorem wpList_lenI (hg : o.guard = none) (m : Operand) (t : TypeId) (hop : o.op = Op.call { callee := Callee.builtin Builtin.len, args := #[m], argTypes := #[t] })
    (k e : TypeId) (ht : P.underlying t = some (.map k e)) (b n mm : Nat) (f : Int → Option Value) (hm : a.eval m = .map (some b)) (h : MapIn w P k b n mm f)
    (hK : wpList P ops Q rest (a.put o.dst (.int .i64 n)) w) : wpList P ops Q (o :: rest) a w := by
  obtain ⟨D, h1, _, hsz, _⟩ := h
  exact wpList_len_own w hg m t hop k e ht tokR b mm D hm h1 (by rw [hsz]; exact hK)
end
end Hp
end Go.Proofs.Ytbhjdpaicfnfcaa
