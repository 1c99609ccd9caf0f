/- The walks of layer 3's PrintType at one type: the text, and what is put. -/
import Derived.Test.YthainjaefijidaaTreeX
namespace Go.Proofs.Ythainjaefijidaa
open Go.RowKit Go.Deep
namespace Tr
theorem info_str : (Try.prog.info? 9).map (fun i => (i.zero, i.size, i.bytes)) = some (some (.string ⟨#[]⟩), 1, 16) := by kernel_rfl
def strsC (l : List ByteArray) : List Value := l.map Value.string
theorem strsC_length (l : List ByteArray) : (strsC l).length = l.length := by simp [strsC]
theorem strsC_append (l m : List ByteArray) : strsC (l ++ m) = strsC l ++ strsC m := by simp [strsC]
theorem strsC_one (l : List ByteArray) : ∀ u ∈ strsC l, u.oneCell' = true := by
  intro u hu
  obtain ⟨x, _, rfl⟩ := List.mem_map.1 hu
  rfl
/-- The text at block c holds an owned row of these tokens. -/
structure Tx (W : World) (c B : Nat) (v : Value) (L : List ByteArray) : Prop where
  cell : Is W c 51 #[v]
  own : W.ownsRow B 9 1 v L.length (strsC L)
  lt : c < B
  le : B ≤ W.heap.size
structure Tk (c B : Nat) (W : World) (v : Value) (W' : World) (v' : Value) (L' : List ByteArray) : Prop where
  acc : Tx W' c B v' L'
  holes : Holes c v.ownBlock W W'
  row : v'.ownBlock = v.ownBlock ∨ ∃ g, v'.ownBlock = some g ∧ W.heap.size ≤ g
section
variable {c B : Nat} {W W1 W2 w0 : World} {v v1 v2 : Value} {L L1 L2 : List ByteArray}
theorem Tx.alloc (h : Tx W c B v L) (o : Obj) : Tx (W.alloc o) c B v L := ⟨h.cell.alloc o, h.own.alloc o, h.lt, by have := h.le; simp; omega⟩
theorem Tk.trans (h : Tk c B W v W1 v1 L1) (k : Tk c B W1 v1 W2 v2 L2) : Tk c B W v W2 v2 L2 := by
  refine ⟨k.acc, ⟨k.holes.os.trans h.holes.os, k.holes.tape.trans h.holes.tape, k.holes.output.trans h.holes.output, Nat.le_trans h.holes.size k.holes.size, fun i hi hc hr => ?_⟩, ?_⟩
  · refine (k.holes.block i (Nat.lt_of_lt_of_le hi h.holes.size) hc ?_).trans (h.holes.block i hi hc hr)
    rcases h.row with e | ⟨g, e, hg⟩
    · rw [e]; exact hr
    · rw [e]
      intro e2
      injection e2 with e2
      omega
  · rcases k.row with e | ⟨g, e, hg⟩
    · rw [e]; exact h.row
    · exact .inr ⟨g, e, Nat.le_trans h.holes.size hg⟩
theorem Tk.ofAlloc {o : Obj} (k : Tk c B (W.alloc o) v W1 v1 L1) : Tk c B W v W1 v1 L1 := by
  refine ⟨k.acc, ⟨k.holes.os, k.holes.tape, k.holes.output, Nat.le_trans (by simp) k.holes.size, fun i hi hc hr => ?_⟩, ?_⟩
  · exact (k.holes.block i (by simp; omega) hc hr).trans (Below.heap_alloc W o i hi)
  · rcases k.row with e | ⟨g, e, hg⟩
    · exact .inl e
    · exact .inr ⟨g, e, Nat.le_trans (by simp) hg⟩
theorem Tk.is (h : Tk c B W v W1 v1 L1) {b : Nat} {t : TypeId} {cs : Array Value} (hi : Is W b t cs) (hc : b ≠ c) (hr : v.ownBlock ≠ some b) : Is W1 b t cs :=
  hi.of (h.holes.block b hi.lt hc fun e => hr e.symm)
theorem Tk.rowne (h : Tk c B W v W1 v1 L1) {b : Nat} (hb : b < W.heap.size) (hr : v.ownBlock ≠ some b) : v1.ownBlock ≠ some b := by
  rcases h.row with e | ⟨g, e, hg⟩
  · rw [e]; exact hr
  · rw [e]
    intro e2
    injection e2 with e2
    omega
end
theorem put_done {W w3 : World} {c B g cap m : Nat} {ao : Option Addr} {L N : List ByteArray} (hA : Tx W c B (.slice ao L.length cap) L) {cap' : Nat}
    (hown : w3.ownsRow B 9 1 (.slice (some ⟨g, 0, none⟩) (L.length + m) cap') (L.length + m) (strsC L ++ strsC N)) (hm : N.length = m) (hgrow : W.grownBy w3 (Value.slice ao L.length cap).ownBlock)
    (hat : (Value.slice ao L.length cap).ownBlock = some g ∨ g = W.heap.size) : Is w3 c 51 #[.slice ao L.length cap] ∧ Tk c B W (.slice ao L.length cap) (w3.setCell ⟨c, 0, none⟩ (.slice (some ⟨g, 0, none⟩) (L.length + m) cap')) (.slice (some ⟨g, 0, none⟩) (L.length + m) cap') (L ++ N) := by
  have hne : (Value.slice ao L.length cap).ownBlock ≠ some c := own_ne hA.own hA.cell (by decide)
  have hi : Is w3 c 51 #[.slice ao L.length cap] := hA.cell.grown hgrow fun e => hne e.symm
  subst hm
  refine ⟨hi, ⟨⟨hi.put 0 _, ?_, hA.lt, ?_⟩, ⟨hgrow.os, hgrow.tape, hgrow.output, ?_, fun k hk hc hr => ?_⟩, ?_⟩⟩
  · have h1 := own_but hown ((But.refl c w3).put 0 (.slice (some ⟨g, 0, none⟩) (L.length + N.length) cap')) hi (by decide)
    rw [strsC_append, List.length_append]
    exact h1
  · have h1 := hgrow.size
    have h2 := hA.le
    simp [World.setCell]
    omega
  · have h1 := hgrow.size
    simp [World.setCell]
    omega
  · rw [Below.heap_setCell w3 ⟨c, 0, none⟩ _ k hc]
    exact hgrow.block k hk hr
  · rcases hat with e | e
    · exact .inl (by rw [e]; rfl)
    · exact .inr ⟨g, rfl, by omega⟩
/-- put: a slice of m tokens, m not none. -/
theorem put_any {W : World} {c B : Nat} {v : Value} {L N : List ByteArray} (hA : Tx W c B v L) (g0 c0 : Nat) (hN : RowAt W (some ⟨g0, 0, none⟩) (strsC N)) (h0 : 0 < N.length) (hbig : L.length + N.length ≤ 1000) :
    Calls Try.prog 19 #[.pointer (some ⟨c, 0, none⟩), .slice (some ⟨g0, 0, none⟩) N.length c0] W fun e W' => e = .returned (.tuple #[]) ∧ ∃ v', Tk c B W v W' v' (L ++ N) := by
  obtain ⟨i0, hi0, hz0, hz1, hz2⟩ := info_parts info_str
  obtain ⟨ao, cap, rfl, _⟩ := own_slice hA.own
  have HA := Lib.hid hA
  have HI := Lib.hid hi0
  have HN := Lib.hid hN
  have x0 := hA.cell.at_ 0
  have f0 := hA.cell.free 0
  simp only [List.getElem?_toArray, List.getElem?_cons_zero] at x0
  have hBl := hA.le
  obtain ⟨m, hm⟩ : ∃ n, N.length = n := ⟨_, rfl⟩
  have HM := Lib.hid hm
  rw [hm] at h0 hbig
  rw [hm]
  clear hA hi0 hN hm
  go_enter Try.func19, Try.ntmps19
  go_wp2_with (at_builtin; refine wpList_append_lies _ rfl (.tmp 8) (.tmp 9) 24 rfl B 9 i0 (.string ⟨#[]⟩) 1 16 Try.underlying24 HI.out hz0 hz1 hz2 rfl (by decide) _ L.length (strsC L) rfl HA.out.own ⟨g0, 0, none⟩ m c0 (strsC N) rfl ?c1 ?c2 ?c3 h0 ?c4 ?c5 hBl W.heap.size rfl ?_)
  case c1 => rw [strsC_length, HM.out, Nat.mul_one]
  case c2 =>
    intro j u hu
    obtain ⟨bk, o, e, _, hc⟩ := HN.out (by rw [strsC_length, HM.out]; exact h0)
    injection e with e
    injection e with e1 e2
    subst e1 e2
    have := hc j u hu
    rwa [show (⟨g0, 0, none⟩ : Addr).add j = ⟨g0, 0 + j, none⟩ from by unfold Addr.add; split <;> simp_all]
  case c3 => exact strsC_one _
  case c4 => unfold maxLen; omega
  case c5 => omega
  intro g cap' w3 hown hgrow hat hlt
  obtain ⟨hi3, hk3⟩ := put_done HA.out hown HM.out hgrow hat
  have HK := Lib.hid hk3
  have d0 := hi3.at_ 0
  have g1 := hi3.free 0
  simp only [List.getElem?_toArray, List.getElem?_cons_zero] at d0
  clear hown hgrow hat hlt hi3 hk3
  go_wp2
  go_end0
  exact ⟨rfl, _, HK.out⟩
end Tr
end Go.Proofs.Ythainjaefijidaa
