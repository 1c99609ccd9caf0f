/- Layer 8: the walks of Once, and of what holds two ways of structs against each other. -/
import Derived.Test.YtelmdidgmpbnmaaIntsEq
import Derived.Test.YtelmdidgmpbnmaaVaryG
namespace Go.Proofs.Ytelmdidgmpbnmaa
open Go.RowKit Go.Deep Tr Mp
namespace Vy
theorem Mp_put (g : Ws) (f : ByteArray → Option Value) {w : World} {s : ByteArray} {v : Value} {a : List Nat} (h : ∀ t, OptR w (f t) (g t)) (hv : RowI w v (ints a)) : ∀ t, OptR w (put f s v t) (upd g s a t) := fun t => by
  unfold put upd
  by_cases ht : t = s
  · rw [if_pos ht, if_pos ht]; exact hv
  · rw [if_neg ht, if_neg ht]; exact h t
theorem OptR.frame {w w' : World} {b : Nat} (hg : w.grownBy w' (some b)) (hb : ∀ (l : List Int) v, RowI w v l → RowI w' v l) {x : Option Value} {y : Option (List Nat)} (h : OptR w x y) : OptR w' x y := by
  unfold OptR at *
  split at h
  · trivial
  · exact hb _ _ h
  · exact h.elim
/-- A map's block is no row of cells. -/
theorem rowI_map {w w' : World} {P : Program} {k b n : Nat} {f : ByteArray → Option Value} (hm : MapAt w P k b n f) (hg : w.grownBy w' (some b)) {l : List Int} {v : Value} (h : RowI w v l) : RowI w' v l := by
  obtain ⟨A, c, rfl, xs, h1, ⟨h2, h2'⟩, h3⟩ := h
  refine ⟨A, c, rfl, xs, h1, ⟨fun h0 => ?_, h2'⟩, h3⟩
  obtain ⟨bk, o, rfl, hlt, hc⟩ := h2 h0
  have hne : bk ≠ b := by
    intro e
    subst e
    obtain ⟨x, hx⟩ : ∃ x, xs[0]? = some x := ⟨_, List.getElem?_eq_getElem h0⟩
    have := hc 0 x hx
    obtain ⟨D, ⟨es, clock, hb, _⟩, _⟩ := hm
    simp [World.cell?, hb] at this
  refine ⟨bk, o, rfl, Nat.lt_of_lt_of_le hlt hg.size, fun i u hu => ?_⟩
  have := hc i u hu
  unfold World.cell? at this ⊢
  rw [hg.block bk hlt (by intro e; injection e with e; exact hne e)]
  exact this
theorem WaysAt.sub {w : World} {o : Option Nat} {l : List Df} {i : Nat} (_ : WaysAt w (.map o) (it l i)) : WSub (it l i) (it l i) := it_wsub l i
def Short (l : List Df) : Prop := ∀ d ∈ l, d.types.length ≤ 1000
theorem DfAt.shape {w : World} {n : Nat} {d : Df} {cs : List Value} (h : DfAt w n d cs) : ∃ (nm : ByteArray) (li : Int) (T : Option Addr) (lt ct : Nat) (A : Option Addr) (la ca : Nat), cs = [.string nm, .int .i64 li, .slice T lt ct, .slice A la ca] ∧ nm = d.name ∧ nm.size ≤ maxLen ∧ li = d.lifes ∧ lt = d.types.length := by
  obtain ⟨T, ct, A, ca, rfl, ⟨h0, _⟩, _⟩ := h
  exact ⟨_, _, _, _, _, _, _, _, rfl, rfl, h0, rfl, rfl⟩
set_option maxHeartbeats 8000000 in
set_option maxRecDepth 100000 in
theorem once_any {n : Nat} {l : List Df} {A : Option Addr} {ca : Nat} {w : World} {o : Option Nat} {W : Ws} (h : ListAt w 4 (DfAt w n) A l) (hl : l.length ≤ 1000) (hsh : Short l) (hw : WaysAt w (.map o) W) (hs : WSub W W) :
    Calls Try.prog 15 #[.slice A l.length ca, .map o] w fun e w' => ∃ b, e = .returned (.map (some b)) ∧ WaysAt w' (.map (some b)) (once l W) ∧ Below w.heap.size w w' := by
  have H := Lib.hid h
  have HW := Lib.hid hw
  have HS := Lib.hid hs
  have HSH := Lib.hid hsh
  obtain ⟨ll, hll⟩ : ∃ n, l.length = n := ⟨_, rfl⟩
  have HLL := Lib.hid hll
  rw [hll] at hl ⊢
  obtain ⟨fin, hfin⟩ : ∃ x, once l W = x := ⟨_, rfl⟩
  have HF : Hid (told (fun d => said d W) l (fun _ => none) = fin) := hfin
  rw [hfin]
  obtain ⟨b, hb⟩ : ∃ b, w.heap.size = b := ⟨_, rfl⟩
  have M0 := MapAt.made w Try.prog 9
  have B0 : Below w.heap.size w (w.alloc (.map #[] 0)) := (Below.refl _ w).alloc (Nat.le_refl _) _
  have hsz0 : (w.alloc (.map #[] 0)).heap.size = b + 1 := by simp [hb]
  rw [hb] at M0 B0
  have hmm := @run_makeMap Try.prog
  obtain ⟨w0, hw0⟩ : ∃ x, w.alloc (.map #[] 0) = x := ⟨_, rfl⟩
  have HW0 := Lib.hid hw0
  rw [hw0] at M0 B0 hsz0
  have HM0 := Lib.hid M0
  have HB0 := Lib.hid B0
  have HSZ := Lib.hid hsz0
  clear h hw hs hsh hll hfin M0 B0 hsz0 hw0
  go_enter Try.func15, Try.ntmps15
  go_wp2
  rw [HW0.out]
  clear HW0 hmm
  go_loopw [11] (fun i wr => ∃ q : Nat, q ≤ ll ∧ i = .int .i64 q ∧ Hid (∃ f g, MapAt wr Try.prog 9 b q f ∧ (∀ s, OptR wr (f s) (g s)) ∧ told (fun d => said d W) (l.drop q) g = fin ∧ Below b w wr ∧ b < wr.heap.size)) (fun i _ => ll - (intOf i).toNat)
  case atStart => exact ⟨0, Nat.zero_le _, rfl, _, fun _ => none, HM0.out, fun _ => trivial, HF.out, HB0.out, HM0.out.lt⟩
  case round =>
    obtain ⟨q, hq, rfl, HC⟩ := hrel
    obtain ⟨f, g, c1, c2, c3, c4, c5⟩ := HC.out
    have C1 := Lib.hid c1
    have C2 := Lib.hid c2
    have C3 := Lib.hid c3
    have C4 : Hid (Below w.heap.size w wr) := by rw [hb]; exact c4
    clear HC c1 c2 c3 c4
    by_cases hql : q < ll
    · obtain ⟨bk, o', cs2, rfl, hlt, _, hs2, hc2⟩ := H.out.get (by decide) (show q < l.length by rw [HLL.out]; exact hql)
      obtain ⟨d, hd⟩ : ∃ x, l[q]'(by rw [HLL.out]; exact hql) = x := ⟨_, rfl⟩
      rw [hd] at hs2
      have hdl : d ∈ l := by rw [← hd]; exact List.getElem_mem _
      obtain ⟨nm, li, T, lt, ct, A1, la, ca1, rfl, hnm, hnl, hli, hltt⟩ := hs2.shape
      have x0 := (C4.out.cell (p := ⟨bk, o' + q * 4 + 0, none⟩) hlt).trans (hc2 0 _ rfl)
      rw [Nat.add_zero] at x0
      have x1 := (C4.out.cell (p := ⟨bk, o' + q * 4 + 1, none⟩) hlt).trans (hc2 1 _ rfl)
      have x2 := (C4.out.cell (p := ⟨bk, o' + q * 4 + 2, none⟩) hlt).trans (hc2 2 _ rfl)
      have x3 := (C4.out.cell (p := ⟨bk, o' + q * 4 + 3, none⟩) hlt).trans (hc2 3 _ rfl)
      obtain ⟨oD, hoD⟩ : ∃ o', (Obj.cells #[.string nm, .int .i64 li, .slice T lt ct, .slice A1 la ca1] 39) = o' := ⟨_, rfl⟩
      have ID : Hid (Is (wr.alloc oD) wr.heap.size 39 #[.string nm, .int .i64 li, .slice T lt ct, .slice A1 la ca1]) := by rw [← hoD]; exact Is.made wr _ _
      have BD : Hid (Below w.heap.size w (wr.alloc oD)) := C4.out.alloc C4.out.size oD
      have M1 : Hid (MapAt (wr.alloc oD) Try.prog 9 b q f) := C1.out.alloc oD
      have O1 : Hid (∀ s, OptR (wr.alloc oD) (f s) (g s)) := fun s => (C2.out s).below ((Below.refl _ wr).alloc (Nat.le_refl _) oD)
      have HOD := Lib.hid hoD
      have CN : Hid (told (fun d => said d W) (l.drop (q + 1)) (upd g nm (said d W)) = fin) := by
        have := C3.out
        rw [List.drop_eq_getElem_cons (by rw [HLL.out]; exact hql), told, hd, ← hnm] at this
        exact this
      have HS2 := Lib.hid hs2
      have HDL : Hid (d.types.length ≤ 1000) := HSH.out d hdl
      have HNL := Lib.hid hnl
      clear hd hs2 hc2 hlt hoD C1 C2 C3 C4 hdl hnm hnl hli hltt
      go_wp2_with fail
      rw [HOD.out]
      obtain ⟨wn, hwn⟩ : ∃ x, wr.alloc oD = x := ⟨_, rfl⟩
      obtain ⟨N, hN⟩ : ∃ N, wr.heap.size = N := ⟨_, rfl⟩
      rw [hwn] at ID BD M1 O1 ⊢
      rw [hN] at ID c5 ⊢
      clear HOD hwn hN x0 x1 x2 x3
      have hbw : b < wn.heap.size := M1.out.lt
      have n0 := ID.out.at_ 0
      have n1 := ID.out.at_ 1
      have n2 := ID.out.at_ 2
      have n3 := ID.out.at_ 3
      simp only [List.getElem?_toArray, List.getElem?_cons_zero, List.getElem?_cons_succ] at n0 n1 n2 n3
      have BDd : Below w.heap.size w wn.drew := ⟨BD.out.os, BD.out.tape, BD.out.output, BD.out.size, BD.out.block⟩
      have HSD := Lib.hid (said_any (w := wn.drew) (HS2.out.below BDd) (HW.out.below BDd) HS.out HDL.out)
      have BDr : Hid (Below w.heap.size w wn.drew) := BDd
      clear BDd
      go_region_held3 (fun w' => w'.cell? ⟨N, 0, none⟩ = some (.string nm) ∧ w'.cell? ⟨N, 1, none⟩ = some (.int .i64 li) ∧ w'.cell? ⟨N, 2, none⟩ = some (.slice T lt ct) ∧ w'.cell? ⟨N, 3, none⟩ = some (.slice A1 la ca1))
        (first
          | exact ⟨n0, n1, n2, n3⟩
          | exact ⟨I4.out.at_ 0, I4.out.at_ 1, I4.out.at_ 2, I4.out.at_ 3⟩
          | exact ⟨I3.out.at_ 0, I3.out.at_ 1, I3.out.at_ 2, I3.out.at_ 3⟩)
        (first
          | (go_at_call 17; refine HSD.out.mono ?_; rintro e w3 ⟨R, m, rfl, f3, g3⟩; have F3 := Lib.hid f3; have G3 := Lib.hid g3; have I3 := Lib.hid (ID.out.drew.below g3 ID.out.lt); have M3 : Hid (MapAt w3 Try.prog 9 b q f) := M1.out.of (g3.block b hbw); have O3 : Hid (∀ s, OptR w3 (f s) (g s)) := fun s => (O1.out s).below ⟨g3.os, g3.tape, g3.output, g3.size, g3.block⟩; obtain ⟨w4, hrun, m4, g4⟩ := put_at M3.out Try.underlying9 Try.underlying28 (by unfold maxLen; omega) HNL.out (.slice (some ⟨R, 0, none⟩) m m); have hNb : N ≠ b := (fun e => absurd c5 (by omega)); have I4 := Lib.hid (I3.out.grown g4 (by intro e; injection e with e; exact hNb e)); have HR : Hid (∃ f g, MapAt w4 Try.prog 9 b (q + 1) f ∧ (∀ s, OptR w4 (f s) (g s)) ∧ told (fun d => said d W) (l.drop (q + 1)) g = fin ∧ Below b w w4 ∧ b < w4.heap.size) := ⟨_, _, m4, Mp_put _ _ (fun s => (O3.out s).frame g4 (fun _ _ h => rowI_map M3.out g4 h)) (rowI_map M3.out g4 F3.out), CN.out, by rw [← hb]; exact (BDr.out.trans (g3.mono BDr.out.size)).grown g4 (Nat.le_trans BDr.out.size g3.size) (fun j hj => by cases hj; omega), m4.lt⟩; clear f3 g3 g4 m4))
      all_goals
        clear HSD O3 M3 F3 G3 I3 I4
        go_wp2
        go_roundw
        case rel => exact ⟨q + 1, by omega, by go_num, HR⟩
        case measure => simp [intOf]; omega
    · have hqe : q = ll := by omega
      subst hqe
      have HR : Hid (WaysAt wr (.map (some b)) fin) := by
        have := C3.out
        rw [List.drop_of_length_le (by rw [HLL.out]; exact Nat.le_refl _), told] at this
        rw [← this]
        exact .inr ⟨_, _, _, rfl, C1.out, C2.out⟩
      clear C1 C2 C3
      go_wp2
      go_ret
      exact ⟨_, rfl, HR.out, C4.out⟩
end Vy
end Go.Proofs.Ytelmdidgmpbnmaa
