/- Layer 8: the walk of Find. -/
import Derived.Deep.LoopGhost
import Derived.Test.YtelmdidgmpbnmaaVaryI
namespace Go.Proofs.Ytelmdidgmpbnmaa
open Go.RowKit Go.Deep Tr Mp
namespace Vy
theorem ask_still {l : List Df} {i : Nat} (h : Ask true l (it l i) (it l (i + 1))) : it l (i + 1) = it l i := by
  refine (it_same fun d hd => ?_).symm
  have h1 := h.yes rfl d hd
  obtain ⟨a, ha⟩ := it_has l hd i
  obtain ⟨b, hb⟩ := it_has l hd (i + 1)
  unfold rowOf at h1
  rw [ha, hb] at h1 ⊢
  exact congrArg some h1
theorem ask_less {l : List Df} {i : Nat} (h : Ask false l (it l i) (it l (i + 1))) : leftAll (it l (i + 1)) l < leftAll (it l i) l := by
  obtain ⟨d, hd, hne⟩ := h.no rfl
  refine leftAll_lt (it_up l i) (it_low l (i + 1)) hd fun e => hne ?_
  unfold rowOf
  rw [e]
theorem zeros_row {w : World} {R m : Nat} (h : Is w R 3 (madeCells #[.int .i64 0] m)) (hm : m ≤ maxLen) : RowI w (.slice (some ⟨R, 0, none⟩) m m) (ints (List.replicate m 0)) := by
  rw [made_rowC] at h
  exact ⟨_, m, by simp [ints], rowC_listAt h (by simpa using hm)⟩
set_option maxHeartbeats 8000000 in
set_option maxRecDepth 100000 in
theorem find_any {n : Nat} {l : List Df} {A : Option Addr} {ca : Nat} {w : World} (h : ListAt w 4 (DfAt w n) A l) (hl : l.length ≤ 1000) (hsh : Short l) :
    Calls Try.prog 12 #[.slice A l.length ca] w fun e w' => ∃ b W, e = .returned (.map (some b)) ∧ WaysAt w' (.map (some b)) W ∧ Held l W ∧ Below w.heap.size w w' := by
  have H := Lib.hid h
  have HSH := Lib.hid hsh
  have HL := Lib.hid hl
  obtain ⟨ll, hll⟩ : ∃ n, l.length = n := ⟨_, rfl⟩
  have HLL := Lib.hid hll
  rw [hll] at hl ⊢
  obtain ⟨b, hb⟩ : ∃ b, w.heap.size = b := ⟨_, rfl⟩
  have M0 := MapAt.made w Try.prog 9
  have B0 : Below w.heap.size w (w.alloc (.map #[] 0)) := (Below.refl _ w).alloc (Nat.le_refl _) _
  rw [hb] at M0 B0
  have hmm := @run_makeMap Try.prog
  obtain ⟨w0, hw0⟩ : ∃ x, w.alloc (.map #[] 0) = x := ⟨_, rfl⟩
  have HW0 := Lib.hid hw0
  rw [hw0] at M0 B0
  have HM0 := Lib.hid M0
  have HB0 := Lib.hid B0
  clear h hsh hll M0 B0 hw0
  go_enter Try.func12, Try.ntmps12
  go_wp2
  rw [HW0.out]
  clear HW0 hmm
  go_loopw [10] (fun i wr => ∃ q : Nat, q ≤ ll ∧ i = .int .i64 q ∧ Hid (∃ f g, MapAt wr Try.prog 9 b q f ∧ (∀ s, OptR wr (f s) (g s)) ∧ told (fun d => List.replicate (slots d) 0) (l.drop q) g = start l ∧ Below b w wr ∧ b < wr.heap.size)) (fun i _ => ll - (intOf i).toNat)
  case atStart => exact ⟨0, Nat.zero_le _, rfl, _, fun _ => none, HM0.out, fun _ => trivial, rfl, HB0.out, HM0.out.lt⟩
  case round =>
    obtain ⟨q, hq, rfl, HC⟩ := hrel
    obtain ⟨f, g, c1, c2, c3, c4, c5⟩ := HC.out
    have C1 := Lib.hid c1
    have C2 := Lib.hid c2
    have C3 := Lib.hid c3
    have C4 : Hid (Below w.heap.size w wr) := by rw [hb]; exact c4
    clear HC c1 c2 c3 c4
    by_cases hql : q < ll
    · obtain ⟨bk, o', cs2, rfl, hlt, _, hs2, hc2⟩ := H.out.get (by decide) (show q < l.length by rw [HLL.out]; exact hql)
      obtain ⟨d, hd⟩ : ∃ x, l[q]'(by rw [HLL.out]; exact hql) = x := ⟨_, rfl⟩
      rw [hd] at hs2
      have hdl : d ∈ l := by rw [← hd]; exact List.getElem_mem _
      obtain ⟨nm, li, T, lt, ct, A1, la, ca1, rfl, hnm, hnl, hli, hltt⟩ := hs2.shape
      have x0 := (C4.out.cell (p := ⟨bk, o' + q * 4 + 0, none⟩) hlt).trans (hc2 0 _ rfl)
      rw [Nat.add_zero] at x0
      have x1 := (C4.out.cell (p := ⟨bk, o' + q * 4 + 1, none⟩) hlt).trans (hc2 1 _ rfl)
      have x2 := (C4.out.cell (p := ⟨bk, o' + q * 4 + 2, none⟩) hlt).trans (hc2 2 _ rfl)
      have x3 := (C4.out.cell (p := ⟨bk, o' + q * 4 + 3, none⟩) hlt).trans (hc2 3 _ rfl)
      obtain ⟨oD, hoD⟩ : ∃ o', (Obj.cells #[.string nm, .int .i64 li, .slice T lt ct, .slice A1 la ca1] 39) = o' := ⟨_, rfl⟩
      have ID : Hid (Is (wr.alloc oD) wr.heap.size 39 #[.string nm, .int .i64 li, .slice T lt ct, .slice A1 la ca1]) := by rw [← hoD]; exact Is.made wr _ _
      have BD : Hid (Below w.heap.size w (wr.alloc oD)) := C4.out.alloc C4.out.size oD
      have M1 : Hid (MapAt (wr.alloc oD) Try.prog 9 b q f) := C1.out.alloc oD
      have O1 : Hid (∀ s, OptR (wr.alloc oD) (f s) (g s)) := fun s => (C2.out s).below ((Below.refl _ wr).alloc (Nat.le_refl _) oD)
      have HOD := Lib.hid hoD
      obtain ⟨k, hk⟩ : ∃ k, lifesP li = k := ⟨_, rfl⟩
      have hk100 : k ≤ 100 := by rw [← hk]; unfold lifesP; omega
      have hlt1 : lt ≤ 1000 := by rw [hltt]; exact HSH.out d hdl
      obtain ⟨m, hm⟩ : ∃ m, k + lt = m := ⟨_, rfl⟩
      have hm2 : m ≤ 1100 := by omega
      have hslots : slots d = m := by unfold slots; rw [← hli, ← hltt, hk, hm]
      have CN : Hid (told (fun d => List.replicate (slots d) 0) (l.drop (q + 1)) (upd g nm (List.replicate m 0)) = start l) := by
        have := C3.out
        rw [List.drop_eq_getElem_cons (by rw [HLL.out]; exact hql), told, hd, ← hnm, hslots] at this
        exact this
      have hwr : IntKind.i64.wrap ((k : Int) + (lt : Int)) = (m : Int) := by rw [IntWalk.i64_in _ (by omega)]; omega
      have hmk := run_make_row' (P := Try.prog) 26 3 (.int .i64 0) 8 Try.underlying26 info_int rfl .i64 .i64 m (by omega) (by omega)
      have HWR := Lib.hid hwr
      have HMK := Lib.hid hmk
      have HNL := Lib.hid hnl
      have HK := Lib.hid hk
      clear hwr hmk hd hs2 hc2 hlt hoD C1 C2 C3 C4 hdl hnm hnl hli hltt hk hslots hm
      go_wp2_with fail
      rw [HOD.out]
      obtain ⟨wn, hwn⟩ : ∃ x, wr.alloc oD = x := ⟨_, rfl⟩
      obtain ⟨N, hN⟩ : ∃ N, wr.heap.size = N := ⟨_, rfl⟩
      rw [hwn] at ID BD M1 O1 ⊢
      rw [hN] at ID c5 ⊢
      clear HOD hwn hN x0 x1 x2 x3
      have hbw : b < wn.heap.size := M1.out.lt
      have n0 := ID.out.at_ 0
      have n1 := ID.out.at_ 1
      have n2 := ID.out.at_ 2
      have n3 := ID.out.at_ 3
      simp only [List.getElem?_toArray, List.getElem?_cons_zero, List.getElem?_cons_succ] at n0 n1 n2 n3
      have BDr : Hid (Below w.heap.size w wn.drew) := ⟨BD.out.os, BD.out.tape, BD.out.output, BD.out.size, BD.out.block⟩
      have hlf := lifes_any (w := wn.drew) nm li (.slice T lt ct) (.slice A1 la ca1)
      rw [HK.out] at hlf
      have HLF := Lib.hid hlf
      clear hlf
      have hwr := HWR.out
      have hmk := HMK.out
      go_region_held3 (fun w' => w'.cell? ⟨N, 0, none⟩ = some (.string nm) ∧ w'.cell? ⟨N, 1, none⟩ = some (.int .i64 li) ∧ w'.cell? ⟨N, 2, none⟩ = some (.slice T lt ct) ∧ w'.cell? ⟨N, 3, none⟩ = some (.slice A1 la ca1))
        (first
          | exact ⟨n0, n1, n2, n3⟩
          | exact ⟨I5.out.at_ 0, I5.out.at_ 1, I5.out.at_ 2, I5.out.at_ 3⟩
          | exact ⟨I4.out.at_ 0, I4.out.at_ 1, I4.out.at_ 2, I4.out.at_ 3⟩
          | exact ⟨I3.out.at_ 0, I3.out.at_ 1, I3.out.at_ 2, I3.out.at_ 3⟩)
        (first
          | (go_at_call 14; refine HLF.out.mono ?_; rintro e w3 ⟨rfl, g3⟩; have I3 := Lib.hid (ID.out.drew.below g3 ID.out.lt); have I4 := Lib.hid (I3.out.alloc (.cells (madeCells #[.int .i64 0] m) 3)); have m4 : MapAt (w3.alloc (.cells (madeCells #[.int .i64 0] m) 3)) Try.prog 9 b q f := MapAt.alloc (M1.out.of (g3.block b hbw)) _; have b4 : Below wn.drew.heap.size wn.drew (w3.alloc (.cells (madeCells #[.int .i64 0] m) 3)) := g3.alloc g3.size _; have r4 := zeros_row (Is.made w3 3 (madeCells #[.int .i64 0] m)) (by unfold maxLen; omega); obtain ⟨w5, hrun, m5, g5⟩ := put_at m4 Try.underlying9 Try.underlying28 (by unfold maxLen; omega) HNL.out (.slice (some ⟨w3.heap.size, 0, none⟩) m m); have hNb : N ≠ b := (fun e => absurd c5 (by omega)); have I5 := Lib.hid (I4.out.grown g5 (by intro e; injection e with e; exact hNb e)); have HR : Hid (∃ f g, MapAt w5 Try.prog 9 b (q + 1) f ∧ (∀ s, OptR w5 (f s) (g s)) ∧ told (fun d => List.replicate (slots d) 0) (l.drop (q + 1)) g = start l ∧ Below b w w5 ∧ b < w5.heap.size) := ⟨_, _, m5, Mp_put _ _ (fun s => ((O1.out s).below (w := wn) ⟨b4.os, b4.tape, b4.output, b4.size, b4.block⟩).frame g5 (fun _ _ h => rowI_map m4 g5 h)) (rowI_map m4 g5 r4), CN.out, by rw [← hb]; exact (BDr.out.trans (b4.mono BDr.out.size)).grown g5 (Nat.le_trans BDr.out.size b4.size) (fun j hj => by cases hj; omega), m5.lt⟩; clear g3 m4 b4 r4 g5 m5))
      all_goals
        clear HLF I3 I4 I5 hwr hmk hrun
        go_wp2
        go_roundw
        case rel => exact ⟨q + 1, by omega, by go_num, HR⟩
        case measure => simp [intOf]; omega
    · have hqe : q = ll := by omega
      subst hqe
      have HR : Hid (WaysAt wr (.map (some b)) (it l 0)) := by
        have := C3.out
        rw [List.drop_of_length_le (by rw [HLL.out]; exact Nat.le_refl _), told] at this
        show WaysAt wr _ (start l)
        rw [← this]
        exact .inr ⟨_, _, _, rfl, C1.out, C2.out⟩
      clear C1 C2 C3
      go_wp2
      go_loopg [3] (leftAll (it l 0) l) (fun gk v wx => ∃ b', v = .map (some b') ∧ Hid (∃ i, WaysAt wx (.map (some b')) (it l i) ∧ leftAll (it l i) l ≤ gk ∧ Below w.heap.size w wx))
      case atStart => exact ⟨b, rfl, 0, HR.out, Nat.le_refl _, C4.out⟩
      case round =>
        obtain ⟨b1, rfl, HC⟩ := hrel
        obtain ⟨i, c1, c2, c3⟩ := HC.out
        have C1 := Lib.hid c1
        have C2 := Lib.hid c2
        have C3 := Lib.hid c3
        have HO := once_any (ca := ca) (H.out.below c3 (fun x _ cs h => DfAt.below c3 h)) HL.out HSH.out c1 (it_wsub l i)
        rw [HLL.out] at HO
        have HO := Lib.hid HO
        clear HC c1 c2 c3 HR
        go_wp2_with fail
        refine HO.out.mono ?_
        rintro e w3 ⟨b2, rfl, d1, d2⟩
        have D1 : Hid (WaysAt w3 (.map (some b2)) (it l (i + 1))) := d1
        have D3 := Lib.hid (C3.out.trans (d2.mono C3.out.size))
        have E1 := Lib.hid (C1.out.below d2)
        clear d1 d2 HO
        obtain ⟨bb, hbb⟩ := ask_any l (it l i) (it l (i + 1))
        have HA := Lib.hid hbb
        have HS := same_any (cap := ca) (H.out.below D3.out (fun x _ cs h => DfAt.below D3.out h)) hbb E1.out D1.out
        rw [HLL.out] at HS
        have HS := Lib.hid HS
        clear hbb
        go_wp2_with fail
        refine HS.out.mono ?_
        rintro e w4 ⟨rfl, d2⟩
        have E4 := Lib.hid (D1.out.below d2)
        have D4 := Lib.hid (D3.out.trans (d2.mono D3.out.size))
        clear d2 HS E1 D1 D3 C1
        cases bb with
        | true =>
          have HH : Hid (Held l (it l (i + 1))) := by
            have h1 := ask_still HA.out
            exact ⟨i, h1, h1⟩
          clear HA
          go_wp2
          go_ret
          exact ⟨_, _, rfl, E4.out, HH.out, D4.out⟩
        | false =>
          have hless := ask_less HA.out
          have HR : Hid (∃ j, WaysAt w4 (.map (some b2)) (it l j) ∧ leftAll (it l j) l ≤ leftAll (it l (i + 1)) l ∧ Below w.heap.size w w4) := ⟨i + 1, E4.out, Nat.le_refl _, D4.out⟩
          have HLS : Hid (leftAll (it l (i + 1)) l < gk) := Nat.lt_of_lt_of_le hless C2.out
          clear hless HA E4 D4
          go_wp2
          go_roundg (leftAll (it l (i + 1)) l)
          case measure => exact HLS.out
          case rel => exact ⟨b2, rfl, HR⟩
end Vy
end Go.Proofs.Ytelmdidgmpbnmaa
