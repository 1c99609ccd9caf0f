/- The walks of layer 3's Walk: what a closure adds to its variable; the frame. -/
import Derived.Test.YthainjaefijidaaTreeW
namespace Go.Proofs.Ythainjaefijidaa
open Go.RowKit Go.Deep
namespace Tr
theorem seen_tree : ∀ n, SeenE n ∧ SeenBl n
  | 0 => ⟨fun _ _ _ h _ => h.elim, seenB_step 0 (.inl rfl)⟩
  | n + 1 => ⟨seenE_step n (seen_tree n).1 (seen_tree n).2, seenB_step (n + 1) (.inr ⟨n, rfl, (seen_tree n).1, (seen_tree n).2⟩)⟩
/-- The variable at block c holds an owned row of these numbers. -/
structure Acc (W : World) (c B : Nat) (v : Value) (L : List Int) : Prop where
  cell : Is W c 33 #[v]
  own : W.ownsRow B 3 1 v L.length (intsI L)
  lt : c < B
  le : B ≤ W.heap.size
/-- What was there stands, but for block c and the row. -/
structure Holes (c : Nat) (row : Option Nat) (W W' : World) : Prop where
  os : W'.os = W.os
  tape : W'.tape = W.tape
  output : W'.output = W.output
  size : W.heap.size ≤ W'.heap.size
  block : ∀ k, k < W.heap.size → k ≠ c → some k ≠ row → W'.heap[k]? = W.heap[k]?
structure Wk (c B : Nat) (W : World) (v : Value) (W' : World) (v' : Value) (L' : List Int) : Prop where
  acc : Acc W' c B v' L'
  holes : Holes c v.ownBlock W W'
  row : v'.ownBlock = v.ownBlock ∨ ∃ g, v'.ownBlock = some g ∧ W.heap.size ≤ g
section
variable {c B : Nat} {W W1 W2 w0 : World} {v v1 v2 : Value} {L L1 L2 : List Int}
theorem Acc.alloc (h : Acc W c B v L) (o : Obj) : Acc (W.alloc o) c B v L := ⟨h.cell.alloc o, h.own.alloc o, h.lt, by have := h.le; simp; omega⟩
theorem Wk.refl (h : Acc W c B v L) : Wk c B W v W v L := ⟨h, ⟨rfl, rfl, rfl, Nat.le_refl _, fun _ _ _ _ => rfl⟩, .inl rfl⟩
theorem Wk.trans (h : Wk c B W v W1 v1 L1) (k : Wk c B W1 v1 W2 v2 L2) : Wk c B W v W2 v2 L2 := by
  refine ⟨k.acc, ⟨k.holes.os.trans h.holes.os, k.holes.tape.trans h.holes.tape, k.holes.output.trans h.holes.output, Nat.le_trans h.holes.size k.holes.size, fun i hi hc hr => ?_⟩, ?_⟩
  · refine (k.holes.block i (Nat.lt_of_lt_of_le hi h.holes.size) hc ?_).trans (h.holes.block i hi hc hr)
    rcases h.row with e | ⟨g, e, hg⟩
    · rw [e]; exact hr
    · rw [e]
      intro e2
      injection e2 with e2
      omega
  · rcases k.row with e | ⟨g, e, hg⟩
    · rw [e]; exact h.row
    · exact .inr ⟨g, e, Nat.le_trans h.holes.size hg⟩
theorem Wk.ofAlloc {o : Obj} (k : Wk c B (W.alloc o) v W1 v1 L1) : Wk c B W v W1 v1 L1 := by
  refine ⟨k.acc, ⟨k.holes.os, k.holes.tape, k.holes.output, Nat.le_trans (by simp) k.holes.size, fun i hi hc hr => ?_⟩, ?_⟩
  · exact (k.holes.block i (by simp; omega) hc hr).trans (Below.heap_alloc W o i hi)
  · rcases k.row with e | ⟨g, e, hg⟩
    · exact .inl e
    · exact .inr ⟨g, e, Nat.le_trans (by simp) hg⟩
theorem Wk.is (h : Wk c B W v W1 v1 L1) {b : Nat} {t : TypeId} {cs : Array Value} (hi : Is W b t cs) (hc : b ≠ c) (hr : v.ownBlock ≠ some b) : Is W1 b t cs :=
  hi.of (h.holes.block b hi.lt hc fun e => hr e.symm)
theorem Wk.rowne (h : Wk c B W v W1 v1 L1) {b : Nat} (hb : b < W.heap.size) (hr : v.ownBlock ≠ some b) : v1.ownBlock ≠ some b := by
  rcases h.row with e | ⟨g, e, hg⟩
  · rw [e]; exact hr
  · rw [e]
    intro e2
    injection e2 with e2
    omega
theorem Wk.below (h : Wk c B W v W1 v1 L1) (hA : Acc W c B v L) (hb : Below w0.heap.size w0 W) (hc : w0.heap.size ≤ c) : Below w0.heap.size w0 W1 := by
  refine ⟨h.holes.os.trans hb.os, h.holes.tape.trans hb.tape, h.holes.output.trans hb.output, Nat.le_trans hb.size h.holes.size, fun k hk => ?_⟩
  refine (h.holes.block k (Nat.lt_of_lt_of_le hk hb.size) (by omega) fun e => ?_).trans (hb.block k hk)
  have h1 := (hA.own.lt k e.symm).1
  have h2 := hA.lt
  omega
end
/-- A closure adds what it sees to its variable. -/
def SeeOk (F : FuncId) : Prop := ∀ (k0 : Int) (v1 v2 v3 v4 v5 v6 v7 v8 : Value) (W : World) (c B : Nat) (v : Value) (L : List Int), Acc W c B v L → L.length ≤ 2000000 →
  Calls Try.prog F #[.agg #[.int .i64 k0, v1, v2, v3, v4, v5, v6, v7, v8], .pointer (some ⟨c, 0, none⟩)] W fun e W' => e = .returned (.tuple #[]) ∧ ∃ v', Wk c B W v W' v' (L ++ [k0])
structure Done (c B : Nat) (W : World) (v : Value) (w3 : World) (v' : Value) (L' : List Int) : Prop where
  mid : Is w3 c 33 #[v]
  fin : Wk c B W v (w3.setCell ⟨c, 0, none⟩ v') v' L'
theorem see_done {W w3 : World} {c B g cap : Nat} {ao : Option Addr} {L : List Int} {k0 : Int} {o1 o2 : Obj} (hA : Acc W c B (.slice ao L.length cap) L) {cap' : Nat}
    (hown : w3.ownsRow B 3 1 (.slice (some ⟨g, 0, none⟩) (L.length + 1) cap') (L.length + 1) (intsI L ++ [.int .i64 k0])) (hgrow : ((W.alloc o1).alloc o2).grownBy w3 (Value.slice ao L.length cap).ownBlock)
    (hat : (Value.slice ao L.length cap).ownBlock = some g ∨ g = W.heap.size + 2) : Done c B W (.slice ao L.length cap) w3 (.slice (some ⟨g, 0, none⟩) (L.length + 1) cap') (L ++ [k0]) := by
  have hne : (Value.slice ao L.length cap).ownBlock ≠ some c := own_ne hA.own hA.cell (by decide)
  have hi : Is w3 c 33 #[.slice ao L.length cap] := ((hA.cell.alloc o1).alloc o2).grown hgrow fun e => hne e.symm
  refine ⟨hi, ⟨⟨hi.put 0 _, ?_, hA.lt, ?_⟩, ⟨hgrow.os, hgrow.tape, hgrow.output, ?_, fun k hk hc hr => ?_⟩, ?_⟩⟩
  · have h1 := own_but hown ((But.refl c w3).put 0 (.slice (some ⟨g, 0, none⟩) (L.length + 1) cap')) hi (by decide)
    rw [intsI_append, List.length_append]
    exact h1
  · have h1 := hgrow.size
    have h2 := hA.le
    simp [World.setCell] at h1 ⊢
    omega
  · have h1 := hgrow.size
    simp [World.setCell] at h1 ⊢
    omega
  · rw [Below.heap_setCell w3 ⟨c, 0, none⟩ _ k hc]
    refine (hgrow.block k (by simp; omega) hr).trans ?_
    rw [Below.heap_alloc _ o2 k (by simp; omega)]
    exact Below.heap_alloc W o1 k hk
  · rcases hat with e | e
    · exact .inl (by rw [e]; rfl)
    · exact .inr ⟨g, rfl, by omega⟩
theorem see1_any : SeeOk 8 := by
  intro k0 v1 v2 v3 v4 v5 v6 v7 v8 W c B v L hA hL
  obtain ⟨i0, hi0, hz0, hz1, hz2⟩ := info_parts info_int
  have HA := Lib.hid hA
  have HI := Lib.hid hi0
  have c0 := hA.cell.at_ 0
  have f0 := hA.cell.free 0
  simp only [List.getElem?_toArray, List.getElem?_cons_zero] at c0
  have hcl := hA.lt
  have hBl := hA.le
  have hcs := hA.cell.lt
  have x0 : ∀ o, (W.alloc o).cell? ⟨c, 0, none⟩ = some v := fun o => by rw [(HA.out.cell.alloc o).at_]; rfl
  clear hA hi0
  obtain ⟨n, hn⟩ : ∃ n, L.length = n := ⟨_, rfl⟩
  have HN := Lib.hid hn
  rw [hn] at hL
  obtain ⟨ao, cap, rfl, _⟩ := own_slice HA.out.own
  clear hn
  go_enter Try.func8, Try.ntmps8
  go_wp2_with (at_builtin; refine wpList_append_lies _ rfl (.tmp 3) (.tmp 6) 33 rfl B 3 i0 (.int .i64 0) 1 8 Try.underlying33 HI.out hz0 hz1 hz2 rfl (by decide) _ L.length (intsI L) rfl (((HA.out.own.alloc _)).alloc _) ⟨W.heap.size + 1, 0, none⟩ 1 1 [.int .i64 k0] rfl rfl ?c1 ?c2 (by decide) ?c3 ?c4 ?c5 (W.heap.size + 2) ?c6 ?_)
  case c1 => exact cells_made2 W _ _ [.int .i64 k0]
  case c2 => intro u hu; simp at hu; subst hu; rfl
  case c3 => rw [HN.out]; unfold maxLen; omega
  case c4 => rw [HN.out]; omega
  case c5 => simp; omega
  case c6 => simp
  intro g cap' w3 hown hgrow hat hlt
  have hw := see_done HA.out hown hgrow hat
  have HW := Lib.hid hw
  have d0 := hw.mid.at_ 0
  have g0 := hw.mid.free 0
  simp only [List.getElem?_toArray, List.getElem?_cons_zero] at d0
  clear hw hown hgrow hat hlt
  go_wp2
  go_end0
  exact ⟨rfl, _, HW.out.fin⟩
theorem see2_any : SeeOk 10 := by
  intro k0 v1 v2 v3 v4 v5 v6 v7 v8 W c B v L hA hL
  obtain ⟨i0, hi0, hz0, hz1, hz2⟩ := info_parts info_int
  have HA := Lib.hid hA
  have HI := Lib.hid hi0
  have c0 := hA.cell.at_ 0
  have f0 := hA.cell.free 0
  simp only [List.getElem?_toArray, List.getElem?_cons_zero] at c0
  have hcl := hA.lt
  have hBl := hA.le
  have hcs := hA.cell.lt
  have x0 : ∀ o, (W.alloc o).cell? ⟨c, 0, none⟩ = some v := fun o => by rw [(HA.out.cell.alloc o).at_]; rfl
  clear hA hi0
  obtain ⟨n, hn⟩ : ∃ n, L.length = n := ⟨_, rfl⟩
  have HN := Lib.hid hn
  rw [hn] at hL
  obtain ⟨ao, cap, rfl, _⟩ := own_slice HA.out.own
  clear hn
  go_enter Try.func10, Try.ntmps10
  go_wp2_with (at_builtin; refine wpList_append_lies _ rfl (.tmp 3) (.tmp 6) 33 rfl B 3 i0 (.int .i64 0) 1 8 Try.underlying33 HI.out hz0 hz1 hz2 rfl (by decide) _ L.length (intsI L) rfl (((HA.out.own.alloc _)).alloc _) ⟨W.heap.size + 1, 0, none⟩ 1 1 [.int .i64 k0] rfl rfl ?c1 ?c2 (by decide) ?c3 ?c4 ?c5 (W.heap.size + 2) ?c6 ?_)
  case c1 => exact cells_made2 W _ _ [.int .i64 k0]
  case c2 => intro u hu; simp at hu; subst hu; rfl
  case c3 => rw [HN.out]; unfold maxLen; omega
  case c4 => rw [HN.out]; omega
  case c5 => simp; omega
  case c6 => simp
  intro g cap' w3 hown hgrow hat hlt
  have hw := see_done HA.out hown hgrow hat
  have HW := Lib.hid hw
  have d0 := hw.mid.at_ 0
  have g0 := hw.mid.free 0
  simp only [List.getElem?_toArray, List.getElem?_cons_zero] at d0
  clear hw hown hgrow hat hlt
  go_wp2
  go_end0
  exact ⟨rfl, _, HW.out.fin⟩
end Tr
end Go.Proofs.Ythainjaefijidaa
