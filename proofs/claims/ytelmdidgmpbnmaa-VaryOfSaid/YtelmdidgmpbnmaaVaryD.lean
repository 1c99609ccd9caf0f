/- Layer 8: what a struct's fields say: what lies in memory meanwhile; the two closures. -/
import Derived.Test.YtelmdidgmpbnmaaVaryC
namespace Go.Proofs.Ytelmdidgmpbnmaa
open Go.RowKit Go.Deep Tr Mp
namespace Vy
def rowC (a : List Nat) : Array Value := (a.map fun (x : Nat) => Value.int .i64 (x : Int)).toArray
theorem rowC_get {a : List Nat} {i : Nat} (h : i < a.length) : (rowC a)[i]? = some (.int .i64 ((a.getD i 0 : Nat) : Int)) := by
  simp [rowC, List.getD_eq_getElem?_getD, h]
theorem rowC_set (a : List Nat) (i x : Nat) : (rowC a).setIfInBounds i (.int .i64 (x : Int)) = rowC (a.set i x) := by
  simp [rowC, List.map_set]
theorem or_bits {a b : Nat} (ha : a < 4) (hb : b < 4) : bits BinOp.or .i64 (a : Int) (b : Int) = ((a ||| b : Nat) : Int) := by
  have h : ∀ a b : Fin 4, bits BinOp.or .i64 (a.1 : Int) (b.1 : Int) = ((a.1 ||| b.1 : Nat) : Int) := by decide +kernel
  exact h ⟨a, ha⟩ ⟨b, hb⟩
/-- Where what is said is kept: blocks of k, of the slots' slice, of the parameters' map, the map, the slots. -/
structure Pl where
  K : Nat
  S : Nat
  M : Nat
  Mb : Nat
  R : Nat
  k : Nat
  n : Nat
  f : ByteArray → Option Nat
structure Fr (p : Pl) (w : World) (cur : List Nat) : Prop where
  kc : Is w p.K 3 #[.int .i64 (p.k : Int)]
  sc : Is w p.S 26 #[.slice (some ⟨p.R, 0, none⟩) p.n p.n]
  mc : Is w p.M 49 #[.map (some p.Mb)]
  mp : ∃ q, MapAt w Try.prog 9 p.Mb q (fun s => (p.f s).map fun i => .int .i64 (i : Int))
  ne : p.K ≠ p.R ∧ p.S ≠ p.R ∧ p.M ≠ p.R ∧ p.Mb ≠ p.R
  flt : ∀ s i, p.f s = some i → i < p.n
  kn : p.k ≤ p.n
  nn : p.n ≤ 2000000
  row : Is w p.R 3 (rowC cur)
  len : cur.length = p.n
  few : Few cur
section
variable {p : Pl} {w w' : World} {cur : List Nat}
theorem Fr.alloc (h : Fr p w cur) (o : Obj) : Fr p (w.alloc o) cur := by
  obtain ⟨q, hq⟩ := h.mp
  exact ⟨h.kc.alloc o, h.sc.alloc o, h.mc.alloc o, ⟨q, hq.alloc o⟩, h.ne, h.flt, h.kn, h.nn, h.row.alloc o, h.len, h.few⟩
theorem Fr.drew (h : Fr p w cur) : Fr p w.drew cur := by
  obtain ⟨q, hq⟩ := h.mp
  exact ⟨h.kc.drew, h.sc.drew, h.mc.drew, ⟨q, hq.of rfl⟩, h.ne, h.flt, h.kn, h.nn, h.row.drew, h.len, h.few⟩
theorem Fr.set (h : Fr p w cur) {j v : Nat} (hv : v < 4) : Fr p (w.setCell ⟨p.R, j, none⟩ (.int .i64 ((cur.getD j 0 ||| v : Nat) : Int))) (orAt cur j v) := by
  obtain ⟨q, hq⟩ := h.mp
  obtain ⟨n1, n2, n3, n4⟩ := h.ne
  refine ⟨h.kc.aside n1 _, h.sc.aside n2 _, h.mc.aside n3 _, ⟨q, hq.of (Below.heap_setCell _ _ _ _ n4)⟩, h.ne, h.flt, h.kn, h.nn, ?_, by rw [orAt_length, h.len], orAt_few h.few hv⟩
  have := h.row.put j (.int .i64 ((cur.getD j 0 ||| v : Nat) : Int))
  rw [rowC_set] at this
  exact this
theorem Fr.turn (h : Fr p w cur) (j : Nat) (u : Value) : w.grownBy (w.setCell ⟨p.R, j, none⟩ u) (some p.R) := ((But.refl p.R w).put j u).grown
theorem grown_refl (w : World) (r : Option Nat) : w.grownBy w r := ⟨rfl, rfl, rfl, Nat.le_refl _, fun _ _ _ => rfl⟩
theorem life_any (h : Fr p w cur) (r : Int) {v : Nat} (hv : v < 4) : Calls Try.prog 21 #[.int .i64 r, .int .i64 (v : Int), .pointer (some ⟨p.K, 0, none⟩), .pointer (some ⟨p.S, 0, none⟩)] w fun e w' =>
    e = .returned (.tuple #[]) ∧ Fr p w' (lifeP p.k r v cur) ∧ w.grownBy w' (some p.R) := by
  have H := Lib.hid h
  have c0 := h.kc.at_ 0
  have c1 := h.sc.at_ 0
  simp only [List.getElem?_toArray, List.getElem?_cons_zero] at c0 c1
  have hkn := h.kn
  have hnn := h.nn
  obtain ⟨k, hk⟩ : ∃ x, p.k = x := ⟨_, rfl⟩
  obtain ⟨n, hn⟩ : ∃ x, p.n = x := ⟨_, rfl⟩
  rw [hk] at c0 hkn
  rw [hn] at c1 hkn hnn
  have HN := Lib.hid hn
  unfold lifeP
  rw [hk]
  clear h hk hn
  by_cases hr : r < 1
  · rw [if_neg (by omega)]
    go_enter Try.func21, Try.ntmps21
    go_wp2
    go_end0
    exact ⟨rfl, H.out, grown_refl _ _⟩
  · have hr : 1 ≤ r := by omega
    by_cases hrk : r ≤ (k : Int)
    · rw [if_pos ⟨hr, hrk⟩]
      obtain ⟨j, hj⟩ : ∃ j : Nat, r - 1 = j := ⟨(r - 1).toNat, by omega⟩
      have hjn : j < n := by omega
      rw [show (r - 1).toNat = j by omega]
      have hc := H.out.row.at_ j
      rw [rowC_get (by rw [H.out.len, HN.out]; exact hjn)] at hc
      have hf := H.out.row.free j
      have ho := or_bits (H.out.few j) hv
      have hs := H.out.set (j := j) hv
      have ht := H.out.turn j (.int .i64 ((cur.getD j 0 ||| v : Nat) : Int))
      obtain ⟨x, hx⟩ : ∃ x, cur.getD j 0 = x := ⟨_, rfl⟩
      rw [hx] at hc ho hs ht
      obtain ⟨y, hy⟩ : ∃ y, x ||| v = y := ⟨_, rfl⟩
      rw [hy] at ho hs ht
      have HS := Lib.hid hs
      have HT := Lib.hid ht
      clear hs ht hx hy
      go_enter Try.func21, Try.ntmps21
      go_wp2
      go_end0
      exact ⟨rfl, HS.out, HT.out⟩
    · rw [if_neg (by omega)]
      have hrk : (k : Int) < r := by omega
      go_enter Try.func21, Try.ntmps21
      go_wp2
      go_end0
      exact ⟨rfl, H.out, grown_refl _ _⟩
theorem param_any (h : Fr p w cur) {s : ByteArray} (hs : s.size ≤ maxLen) {v : Nat} (hv : v < 4) : Calls Try.prog 22 #[.string s, .int .i64 (v : Int), .pointer (some ⟨p.M, 0, none⟩), .pointer (some ⟨p.S, 0, none⟩)] w fun e w' =>
    e = .returned (.tuple #[]) ∧ Fr p w' (paramP p.f s v cur) ∧ w.grownBy w' (some p.R) := by
  have H := Lib.hid h
  have c0 := h.mc.at_ 0
  have c1 := h.sc.at_ 0
  simp only [List.getElem?_toArray, List.getElem?_cons_zero] at c0 c1
  obtain ⟨q, hq⟩ := h.mp
  have hl := look_ok_at hq Try.underlying9 Try.underlying49 (zero_int w) hs
  have hnn := h.nn
  unfold paramP
  cases hf : p.f s with
  | none =>
    rw [hf] at hl
    have hl : _ = Result.ok (Value.tuple #[.int .i64 0, .bool false]) w := hl
    clear h hq hf
    go_enter Try.func22, Try.ntmps22
    go_wp2
    go_end0
    exact ⟨rfl, H.out, grown_refl _ _⟩
  | some j =>
    rw [hf] at hl
    have hl : _ = Result.ok (Value.tuple #[.int .i64 (j : Int), .bool true]) w := hl
    have hjn := h.flt s j hf
    have hc := H.out.row.at_ j
    rw [rowC_get (by rw [H.out.len]; exact hjn)] at hc
    have hfr := H.out.row.free j
    have ho := or_bits (H.out.few j) hv
    have hs := H.out.set (j := j) hv
    have ht := H.out.turn j (.int .i64 ((cur.getD j 0 ||| v : Nat) : Int))
    obtain ⟨x, hx⟩ : ∃ x, cur.getD j 0 = x := ⟨_, rfl⟩
    rw [hx] at hc ho hs ht
    obtain ⟨y, hy⟩ : ∃ y, x ||| v = y := ⟨_, rfl⟩
    rw [hy] at ho hs ht
    have HS := Lib.hid hs
    have HT := Lib.hid ht
    obtain ⟨n, hn⟩ : ∃ x, p.n = x := ⟨_, rfl⟩
    rw [hn] at hjn c1 hnn
    clear hs ht hx hy h hq hf hn
    dsimp only
    go_enter Try.func22, Try.ntmps22
    go_wp2
    go_end0
    exact ⟨rfl, HS.out, HT.out⟩
end
end Vy
end Go.Proofs.Ytelmdidgmpbnmaa
