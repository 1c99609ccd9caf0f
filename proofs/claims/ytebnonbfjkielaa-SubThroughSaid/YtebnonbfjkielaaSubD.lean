/- Layer 10: the walk's struct in memory; say. -/
import Derived.Deep.RegionHeld3
import Derived.Deep.RegionLaw
import Derived.Deep.AppendLies
import Derived.Test.YtebnonbfjkielaaPairs
import Derived.Test.YtebnonbfjkielaaWays
import Derived.Test.YtebnonbfjkielaaSubC
namespace Go.Proofs.Ytebnonbfjkielaa
open Go.RowKit Go.Deep Tr Ts Vy Mp
namespace Sb
/-- The struct that walks at block c: its ways, and the pairs so far, an owned row. -/
structure Wlk (W : World) (c B : Nat) (o : Value) (v : Value) (L : Ps) : Prop where
  cell : Is W c 53 #[o, v]
  own : W.ownsRow B 35 2 v L.length (pairsC L)
  lt : c < B
  le : B ≤ W.heap.size
section
variable {c B : Nat} {W W1 : World} {o v : Value} {L : Ps}
theorem Wlk.alloc (h : Wlk W c B o v L) (x : Obj) : Wlk (W.alloc x) c B o v L := ⟨h.cell.alloc x, h.own.alloc x, h.lt, by have := h.le; simp; omega⟩
theorem Wlk.drew (h : Wlk W c B o v L) : Wlk W.drew c B o v L := ⟨h.cell.drew, h.own.drew, h.lt, h.le⟩
theorem Wlk.below (h : Wlk W c B o v L) (hb : Below W.heap.size W W1) : Wlk W1 c B o v L :=
  ⟨h.cell.below hb h.cell.lt, own_below h.own hb, h.lt, Nat.le_trans h.le hb.size⟩
theorem Wlk.done {W2 : World} {n' : Nat} {v' : Value} {ys : Ps} (h : Wlk W c B o v L) (k : Kp 35 (some c) B W W2) (hc : Is W2 c 53 #[o, v]) (ho : W2.ownsRow B 35 2 v' n' (pairsC ys)) (hn : n' = ys.length) :
    Wlk (W2.setCell ⟨c, 1, none⟩ v') c B o v' ys ∧ Kp 35 (some c) B W (W2.setCell ⟨c, 1, none⟩ v') :=
  ⟨⟨hc.put 1 v', by rw [← hn]; exact own_but ho ((But.refl c W2).put 1 v') hc (by decide), h.lt, by have := h.le; have := k.size; simp [World.setCell]; omega⟩, k.put rfl 1 v'⟩
end
def SayOk (c B : Nat) : Prop := ∀ (x y : Int) (w : Nat) (W : World) (o v : Value) (L : Ps), w < 4 → Wlk W c B o v L → L.length + 2 ≤ Big →
  Calls Try.prog 23 #[.pointer (some ⟨c, 0, none⟩), .int .i64 x, .int .i64 y, .int .i64 (w : Int)] W fun e W' => e = .returned (.tuple #[]) ∧ ∃ v', Wlk W' c B o v' (L ++ sayP x y w) ∧ Kp 35 (some c) B W W'
set_option maxHeartbeats 8000000 in
set_option maxRecDepth 100000 in
theorem say_any (c B : Nat) : SayOk c B := by
  intro x y w W o v L hw hA hbig
  obtain ⟨i0, hi0, hz0, hz1, hz2⟩ := info_parts info_two
  have HI := Lib.hid hi0
  clear hi0
  unfold Big at hbig
  have c0 := hA.cell.at_ 0
  have c1 := hA.cell.at_ 1
  have f1 := hA.cell.free 1
  simp only [List.getElem?_toArray, List.getElem?_cons_zero, List.getElem?_cons_succ] at c0 c1
  rcases (show w = 0 ∨ w = 1 ∨ w = 2 ∨ w = 3 by omega) with rfl | rfl | rfl | rfl
  · have HR : Hid (∃ v', Wlk W c B o v' (L ++ sayP x y 0) ∧ Kp 35 (some c) B W W) := ⟨v, by rw [show sayP x y 0 = [] from rfl, List.append_nil]; exact hA, .refl _ _ _ _⟩
    clear hA hbig c0 c1 f1
    go_enter Try.func23, Try.ntmps23
    go_wp2
    go_end0
    exact ⟨rfl, HR.out⟩
  · have e : sayP x y 1 = [(x, y)] := rfl
    rw [e]
    obtain ⟨ao, cp, rfl, _⟩ := own_slice hA.own
    have HP : Hid (pairsC (L ++ [(x, y)]) = pairsC L ++ [.int .i64 x, .int .i64 y]) := pairsC_append L _
    have C1 : Hid (Is (W.alloc (.cells #[.int .i64 x, .int .i64 y] 35)) c 53 #[o, .slice ao L.length cp]) := hA.cell.alloc _
    have O1 : Hid ((W.alloc (.cells #[.int .i64 x, .int .i64 y] 35)).ownsRow B 35 2 (.slice ao L.length cp) L.length (pairsC L)) := hA.own.alloc _
    have LB1 : Hid (L.length + 1 ≤ maxLen) := by show _ ≤ maxLen; unfold maxLen; omega
    have LB2 : Hid ((L.length + 1) * 16 ≤ 140737488355328) := by show _ ≤ 140737488355328; omega
    have LE : Hid (B ≤ (W.alloc (.cells #[.int .i64 x, .int .i64 y] 35)).heap.size) := by show _ ≤ _; have := hA.le; simp; omega
    have HA := Lib.hid hA
    obtain ⟨n, hn⟩ : ∃ n, L.length = n := ⟨_, rfl⟩
    have HN := Lib.hid hn
    rw [hn] at LB1 LB2 C1 O1 c1
    clear hA hbig hw e hn
    rw [HN.out] at HA
    go_enter Try.func23, Try.ntmps23
    go_wp2_with (at_builtin; refine wpList_append_lies _ rfl (.tmp 15) (.tmp 19) 29 rfl B 35 i0 (.agg #[.int .i64 0, .int .i64 0]) 2 16 Try.underlying29 HI.out hz0 hz1 hz2 rfl (by decide) _ n (pairsC L) rfl O1.out ⟨W.heap.size, 0, none⟩ 1 1 [.int .i64 x, .int .i64 y] rfl rfl (cells_made W _ [.int .i64 x, .int .i64 y]) (by simp [Value.oneCell']) (by decide) LB1.out LB2.out LE.out (W.heap.size + 1) (by simp) ?_)
    intro g cap w1 ho1 hg1 _ _
    have C2 : Hid (Is w1 c 53 #[o, .slice ao n cp]) := C1.out.grown hg1 (fun e => own_ne O1.out C1.out (by decide) e.symm)
    have f2 := C2.out.free 1
    have d1 := C2.out.at_ 1
    simp only [List.getElem?_toArray, List.getElem?_cons_zero, List.getElem?_cons_succ] at d1
    have HR : Hid (Wlk (w1.setCell ⟨c, 1, none⟩ (.slice (some ⟨g, 0, none⟩) (n + 1) cap)) c B o (.slice (some ⟨g, 0, none⟩) (n + 1) cap) (L ++ [(x, y)]) ∧ Kp 35 (some c) B W (w1.setCell ⟨c, 1, none⟩ (.slice (some ⟨g, 0, none⟩) (n + 1) cap))) := by
      have hk : Kp 35 (some c) B W w1 := ((Kp.refl _ _ _ W).alloc _).trans (Kp.own O1.out hg1)
      exact HA.out.done hk C2.out (by rw [HP.out]; exact ho1) (by rw [List.length_append, HN.out]; rfl)
    clear ho1 hg1 C1 O1 LB1 LB2 LE HP HN HA C2
    go_wp2
    go_end0
    exact ⟨rfl, _, HR.out⟩
  · have e : sayP x y 2 = [(y, x)] := rfl
    rw [e]
    obtain ⟨ao, cp, rfl, _⟩ := own_slice hA.own
    have HP : Hid (pairsC (L ++ [(y, x)]) = pairsC L ++ [.int .i64 y, .int .i64 x]) := pairsC_append L _
    have C1 : Hid (Is (W.alloc (.cells #[.int .i64 y, .int .i64 x] 35)) c 53 #[o, .slice ao L.length cp]) := hA.cell.alloc _
    have O1 : Hid ((W.alloc (.cells #[.int .i64 y, .int .i64 x] 35)).ownsRow B 35 2 (.slice ao L.length cp) L.length (pairsC L)) := hA.own.alloc _
    have LB1 : Hid (L.length + 1 ≤ maxLen) := by show _ ≤ maxLen; unfold maxLen; omega
    have LB2 : Hid ((L.length + 1) * 16 ≤ 140737488355328) := by show _ ≤ 140737488355328; omega
    have LE : Hid (B ≤ (W.alloc (.cells #[.int .i64 y, .int .i64 x] 35)).heap.size) := by show _ ≤ _; have := hA.le; simp; omega
    have HA := Lib.hid hA
    obtain ⟨n, hn⟩ : ∃ n, L.length = n := ⟨_, rfl⟩
    have HN := Lib.hid hn
    rw [hn] at LB1 LB2 C1 O1 c1
    clear hA hbig hw e hn
    rw [HN.out] at HA
    go_enter Try.func23, Try.ntmps23
    go_wp2_with (at_builtin; refine wpList_append_lies _ rfl (.tmp 29) (.tmp 33) 29 rfl B 35 i0 (.agg #[.int .i64 0, .int .i64 0]) 2 16 Try.underlying29 HI.out hz0 hz1 hz2 rfl (by decide) _ n (pairsC L) rfl O1.out ⟨W.heap.size, 0, none⟩ 1 1 [.int .i64 y, .int .i64 x] rfl rfl (cells_made W _ [.int .i64 y, .int .i64 x]) (by simp [Value.oneCell']) (by decide) LB1.out LB2.out LE.out (W.heap.size + 1) (by simp) ?_)
    intro g cap w1 ho1 hg1 _ _
    have C2 : Hid (Is w1 c 53 #[o, .slice ao n cp]) := C1.out.grown hg1 (fun e => own_ne O1.out C1.out (by decide) e.symm)
    have f2 := C2.out.free 1
    have d1 := C2.out.at_ 1
    simp only [List.getElem?_toArray, List.getElem?_cons_zero, List.getElem?_cons_succ] at d1
    have HR : Hid (Wlk (w1.setCell ⟨c, 1, none⟩ (.slice (some ⟨g, 0, none⟩) (n + 1) cap)) c B o (.slice (some ⟨g, 0, none⟩) (n + 1) cap) (L ++ [(y, x)]) ∧ Kp 35 (some c) B W (w1.setCell ⟨c, 1, none⟩ (.slice (some ⟨g, 0, none⟩) (n + 1) cap))) := by
      have hk : Kp 35 (some c) B W w1 := ((Kp.refl _ _ _ W).alloc _).trans (Kp.own O1.out hg1)
      exact HA.out.done hk C2.out (by rw [HP.out]; exact ho1) (by rw [List.length_append, HN.out]; rfl)
    clear ho1 hg1 C1 O1 LB1 LB2 LE HP HN HA C2
    go_wp2
    go_end0
    exact ⟨rfl, _, HR.out⟩
  · have e : sayP x y 3 = [(x, y), (y, x)] := rfl
    rw [e]
    obtain ⟨ao, cp, rfl, _⟩ := own_slice hA.own
    have HP : Hid (pairsC (L ++ [(x, y), (y, x)]) = pairsC L ++ [.int .i64 x, .int .i64 y, .int .i64 y, .int .i64 x]) := pairsC_append L _
    have C1 : Hid (Is (W.alloc (.cells #[.int .i64 x, .int .i64 y, .int .i64 y, .int .i64 x] 35)) c 53 #[o, .slice ao L.length cp]) := hA.cell.alloc _
    have O1 : Hid ((W.alloc (.cells #[.int .i64 x, .int .i64 y, .int .i64 y, .int .i64 x] 35)).ownsRow B 35 2 (.slice ao L.length cp) L.length (pairsC L)) := hA.own.alloc _
    have LB1 : Hid (L.length + 2 ≤ maxLen) := by show _ ≤ maxLen; unfold maxLen; omega
    have LB2 : Hid ((L.length + 2) * 16 ≤ 140737488355328) := by show _ ≤ 140737488355328; omega
    have LE : Hid (B ≤ (W.alloc (.cells #[.int .i64 x, .int .i64 y, .int .i64 y, .int .i64 x] 35)).heap.size) := by show _ ≤ _; have := hA.le; simp; omega
    have HA := Lib.hid hA
    obtain ⟨n, hn⟩ : ∃ n, L.length = n := ⟨_, rfl⟩
    have HN := Lib.hid hn
    rw [hn] at LB1 LB2 C1 O1 c1
    clear hA hbig hw e hn
    rw [HN.out] at HA
    go_enter Try.func23, Try.ntmps23
    go_wp2_with (at_builtin; refine wpList_append_lies _ rfl (.tmp 43) (.tmp 50) 29 rfl B 35 i0 (.agg #[.int .i64 0, .int .i64 0]) 2 16 Try.underlying29 HI.out hz0 hz1 hz2 rfl (by decide) _ n (pairsC L) rfl O1.out ⟨W.heap.size, 0, none⟩ 2 2 [.int .i64 x, .int .i64 y, .int .i64 y, .int .i64 x] rfl rfl (cells_made W _ [.int .i64 x, .int .i64 y, .int .i64 y, .int .i64 x]) (by simp [Value.oneCell']) (by decide) LB1.out LB2.out LE.out (W.heap.size + 1) (by simp) ?_)
    intro g cap w1 ho1 hg1 _ _
    have C2 : Hid (Is w1 c 53 #[o, .slice ao n cp]) := C1.out.grown hg1 (fun e => own_ne O1.out C1.out (by decide) e.symm)
    have f2 := C2.out.free 1
    have d1 := C2.out.at_ 1
    simp only [List.getElem?_toArray, List.getElem?_cons_zero, List.getElem?_cons_succ] at d1
    have HR : Hid (Wlk (w1.setCell ⟨c, 1, none⟩ (.slice (some ⟨g, 0, none⟩) (n + 2) cap)) c B o (.slice (some ⟨g, 0, none⟩) (n + 2) cap) (L ++ [(x, y), (y, x)]) ∧ Kp 35 (some c) B W (w1.setCell ⟨c, 1, none⟩ (.slice (some ⟨g, 0, none⟩) (n + 2) cap))) := by
      have hk : Kp 35 (some c) B W w1 := ((Kp.refl _ _ _ W).alloc _).trans (Kp.own O1.out hg1)
      exact HA.out.done hk C2.out (by rw [HP.out]; exact ho1) (by rw [List.length_append, HN.out]; rfl)
    clear ho1 hg1 C1 O1 LB1 LB2 LE HP HN HA C2
    go_wp2
    go_end0
    exact ⟨rfl, _, HR.out⟩
end Sb
end Go.Proofs.Ytebnonbfjkielaa
