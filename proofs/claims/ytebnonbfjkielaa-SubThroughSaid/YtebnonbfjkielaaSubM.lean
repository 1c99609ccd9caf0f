/- Layer 10: a type with regions as they come of a list. -/
import Derived.Test.YtebnonbfjkielaaSubL
namespace Go.Proofs.Ytebnonbfjkielaa
open Go.RowKit Go.Deep Tr Ts Vy Mp
namespace Sb
def regP (X : List Int) (i : Nat) : Int := if X.length = 0 then 0 else (IntKind.u64.wrap (X.getD (i % X.length) 0)) % 8
def regsOf (X : List Int) (n : Nat) : List Int := (List.range n).map (regP X)
theorem regsOf_length (X : List Int) (n : Nat) : (regsOf X n).length = n := by simp [regsOf]
theorem regsOf_succ (X : List Int) (n : Nat) : regsOf X (n + 1) = regsOf X n ++ [regP X n] := by simp [regsOf, List.range_succ]
theorem regP_range (X : List Int) (i : Nat) : 0 ≤ regP X i ∧ regP X i < 8 := by
  unfold regP
  split
  · omega
  · omega
theorem regsOf_range (X : List Int) (n : Nat) : ∀ r ∈ regsOf X n, 0 ≤ r ∧ r < 8 := by
  intro r hr
  unfold regsOf at hr
  obtain ⟨i, _, rfl⟩ := List.mem_map.1 hr
  exact regP_range X i
theorem wrap_mod8 (y : Int) : wrap64 ((IntKind.u64.wrap y).tmod 8) = IntKind.u64.wrap y % 8 := by
  have h : 0 ≤ IntKind.u64.wrap y := wrap_u64_nonneg y
  rw [Int.tmod_eq_emod_of_nonneg h]
  unfold wrap64
  omega
theorem rowS_of {w : World} {base n : Nat} {v : Value} {l : List Int} {te : TypeId} (h : w.ownsRow base te 1 v n (intsC l)) (hl : l.length = n) : RowS w v l := by
  subst hl
  rcases h.2 with ⟨rfl, h0⟩ | ⟨g, cap, cur, rfl, h3, hh, h4, h5, _⟩
  · exact .inl ⟨rfl, List.eq_nil_of_length_eq_zero h0⟩
  · refine .inr ⟨g, 0, cap, rfl, h4, ?_, lt_of_block hh, fun i hi => ?_⟩
    · exact h5
    · have := h.cells (g := g) rfl i (.int .i64 l[i]) (by unfold intsC; rw [List.getElem?_map, List.getElem?_eq_getElem hi]; rfl)
      rwa [show (⟨g, 0, none⟩ : Addr).add i = ⟨g, 0 + i, none⟩ from by unfold Addr.add; split <;> simp_all] at this
set_option maxHeartbeats 16000000 in
set_option maxRecDepth 100000 in
theorem regions_at {W0 : World} {n : Nat} {x : Ty} {cs : List Value} {X : List Int} {lv : Value} {W : World} (h0 : TyAt W0 n x cs) (hb0 : Below W0.heap.size W0 W) (hs : Slim 6 x) (hx : RowI W lv X) :
    Calls Try.prog 11 #[.agg cs.toArray, lv] W fun e W' => ∃ ds : List Value, e = .returned (.agg ds.toArray) ∧ TyAt (only (qW W0.heap.size W.heap.size) W') n (withP x (regsOf X (allP x).length)) ds ∧ Below W.heap.size W W' := by
  have h := TyAt.below hb0 _ _ _ h0
  have H0 := Lib.hid h0
  have HB0 := Lib.hid hb0
  clear h0 hb0
  obtain ⟨i0, hi0, hz0, hz1, hz2⟩ := info_parts info_int
  have HI := Lib.hid hi0
  obtain ⟨k, nm, u, r, R, lr, cr, A, la, ca, rfl⟩ := h.shape
  obtain ⟨XA, xc, rfl, hxl⟩ := hx
  have hxle := hxl.le
  unfold maxLen at hxle
  obtain ⟨lx, hlx⟩ : ∃ n, X.length = n := ⟨_, rfl⟩
  rw [hlx] at hxle ⊢
  obtain ⟨o1, ho1⟩ : ∃ o, Obj.cells #[.int .i64 k, .string nm, .bool u, .int .i64 r, .slice R lr cr, .slice A la ca] 25 = o := ⟨_, rfl⟩
  obtain ⟨o2, ho2⟩ : ∃ o, Obj.cells #[.int .i64 0, .string ⟨#[]⟩, .bool false, .int .i64 0, .slice none 0 0, .slice none 0 0] 25 = o := ⟨_, rfl⟩
  obtain ⟨I0, I1⟩ := boxes2 W o1 o2 _ _ _ _ ho1.symm ho2.symm
  have hBV : Below W.heap.size W ((W.alloc o1).alloc o2) := ((Below.refl _ W).alloc (Nat.le_refl _) o1).alloc (by simp) o2
  have hsz : ((W.alloc o1).alloc o2).heap.size = W.heap.size + 1 + 1 := by simp
  obtain ⟨V, hV⟩ : ∃ V, (W.alloc o1).alloc o2 = V := ⟨_, rfl⟩
  obtain ⟨N, hN⟩ : ∃ N, W.heap.size = N := ⟨_, rfl⟩
  rw [hV] at I0 I1 hBV hsz
  rw [hN] at I0 I1 hsz
  have HV : Hid ((W.alloc (.cells #[.int .i64 k, .string nm, .bool u, .int .i64 r, .slice R lr cr, .slice A la ca] 25)).alloc (.cells #[.int .i64 0, .string ⟨#[]⟩, .bool false, .int .i64 0, .slice none 0 0, .slice none 0 0] 25) = V) := by rw [← hV, ← ho1, ← ho2]; exact rfl
  have hall := all_big hs
  obtain ⟨y1, hy1⟩ : ∃ y, withP x (regsOf X (allP x).length) = y := ⟨_, rfl⟩
  have HY1 := Lib.hid hy1
  rw [hy1]
  have HALL := Lib.hid (rall_any n x _ V (TyAt.below hBV _ _ _ h) (by omega))
  have HN := Lib.hid hN
  have HSZ := Lib.hid hsz
  have J0 := Lib.hid I0
  have J1 := Lib.hid I1
  have HBV := Lib.hid hBV
  have HT := Lib.hid h
  have HS := Lib.hid hs
  have HX := Lib.hid hxl
  have HLX := Lib.hid hlx
  have HBG := Lib.hid hall
  clear hy1 hi0 h hs hxl hlx ho1 ho2 I0 I1 hBV hsz hV hN hall
  go_enter Try.func11, Try.ntmps11
  go_wp2_with fail
  rw [HV.out]
  try rw [HN.out]
  refine HALL.out.mono ?_
  rintro e W2 ⟨vo, rfl, r1, b1⟩
  obtain ⟨Ao, co, rfl, _⟩ := r1
  obtain ⟨no, hno⟩ : ∃ n, (allP x).length = n := ⟨_, rfl⟩
  have HNO := Lib.hid hno
  rw [hno]
  have HB2 : Hid (Below W.heap.size W W2) := HBV.out.trans (b1.mono HBV.out.size)
  have hs2 : N + 1 + 1 ≤ W2.heap.size := by rw [← HSZ.out]; exact b1.size
  have K0 := Lib.hid (J0.out.below b1 J0.out.lt)
  have K1 := Lib.hid (J1.out.below b1 J1.out.lt)
  have O2 := Lib.hid (World.ownsRow_nil W2 W2.heap.size 3 1)
  have hnle : no ≤ 1000000 := by have h1 := all_le 6 x HS.out; have h6 := most6; omega
  clear hno b1 J0 J1 HV HALL HBV
  go_wp2
  go_loopw [6, 7] (fun v i wr => ∃ j : Nat, j ≤ no ∧ i = .int .i64 j ∧ Hid (wr.ownsRow W2.heap.size 3 1 v j (intsC (regsOf X j)) ∧ Below W2.heap.size W2 wr)) (fun _ i _ => no - (intOf i).toNat)
  case atStart => exact ⟨0, Nat.zero_le _, rfl, O2.out, .refl _ _⟩
  clear O2
  case round =>
    obtain ⟨j, hj, rfl, HQ⟩ := hrel
    obtain ⟨q1, q2⟩ := HQ.out
    obtain ⟨ao, cp, rfl, _⟩ := own_slice q1
    have O3 := Lib.hid q1
    have B3 := Lib.hid q2
    clear HQ q1 q2
    by_cases hjl : j < no
    · obtain ⟨z, hz⟩ : ∃ z, regP X j = z := ⟨_, rfl⟩
      have HZ := Lib.hid hz
      have hbw : Below W.heap.size W wr := HB2.out.trans (B3.out.mono HB2.out.size)
      have C1 : Hid ((wr.alloc (.cells #[.int .i64 z] 3)).ownsRow W2.heap.size 3 1 (.slice ao j cp) j (intsC (regsOf X j))) := O3.out.alloc _
      have LB1 : Hid (j + 1 ≤ maxLen) := by show _ ≤ maxLen; unfold maxLen; omega
      have LB2 : Hid ((j + 1) * 8 ≤ 140737488355328) := by show _ ≤ 140737488355328; omega
      have LE : Hid (W2.heap.size ≤ (wr.alloc (.cells #[.int .i64 z] 3)).heap.size) := by show _ ≤ _; have := B3.out.size; simp; omega
      have HNX : Hid (∀ g cap w1, w1.ownsRow W2.heap.size 3 1 (.slice (some ⟨g, 0, none⟩) (j + 1) cap) (j + 1) (intsC (regsOf X j) ++ [.int .i64 z]) → (wr.alloc (.cells #[.int .i64 z] 3)).grownBy w1 (Value.slice ao j cp).ownBlock → w1.ownsRow W2.heap.size 3 1 (.slice (some ⟨g, 0, none⟩) (j + 1) cap) (j + 1) (intsC (regsOf X (j + 1))) ∧ Below W2.heap.size W2 w1) := fun g cap w1 h1 h2 => by
        refine ⟨?_, below_own (B3.out.alloc B3.out.size _) C1.out (Nat.le_refl _) (B3.out.alloc B3.out.size _).size h2⟩
        rw [regsOf_succ, HZ.out, intsC_append]
        exact h1
      by_cases hx0 : lx = 0
      · have hz0' : z = 0 := by rw [← HZ.out, regP, if_pos (by rw [HLX.out]; exact hx0)]
        subst hx0 hz0'
        clear hbw hz
        go_wp2_with (at_builtin; refine wpList_append_lies _ rfl (.tmp 32) (.tmp 34) 22 rfl W2.heap.size 3 i0 (.int .i64 0) 1 8 Try.underlying22 HI.out hz0 hz1 hz2 rfl (by decide) _ j (intsC (regsOf X j)) rfl C1.out ⟨wr.heap.size, 0, none⟩ 1 1 [.int .i64 0] rfl rfl (cells_made wr _ [.int .i64 0]) (by simp [Value.oneCell']) (by decide) LB1.out LB2.out LE.out (wr.heap.size + 1) (by simp) ?_)
        intro g cap w1 ho1 hg1 _ _
        have HR := Lib.hid (HNX.out g cap w1 ho1 hg1)
        clear ho1 hg1 C1 LB1 LB2 LE O3 B3 HNX
        go_wp2
        go_roundw
        case rel => exact ⟨j + 1, by omega, by go_num, HR⟩
        case measure => simp [intOf]; omega
      · have hlt : j % lx < X.length := by rw [HLX.out]; exact Nat.mod_lt _ (by omega)
        obtain ⟨bk, o', rfl, hl, hc0⟩ := int_at HX.out hlt
        have hc := (hbw.cell (p := ⟨bk, o' + j % lx, none⟩) hl).trans hc0
        obtain ⟨y, hy⟩ : ∃ y, X[j % lx] = y := ⟨_, rfl⟩
        rw [hy] at hc
        have hz1' : z = (IntKind.u64.wrap y) % 8 := by
          rw [← HZ.out, regP, if_neg (by rw [HLX.out]; exact hx0), HLX.out, List.getD_eq_getElem?_getD, List.getElem?_eq_getElem hlt, hy]
          rfl
        have hml : j % lx < lx := Nat.mod_lt _ (by omega)
        have hlp : 0 < lx := by omega
        clear hc0
        clear hbw hz hy hl hlt hx0
        have hw : wrap64 ((IntKind.u64.wrap y).tmod 8) = z := by
          rw [hz1']
          exact wrap_mod8 y
        clear hz1'
        go_wp2_with (at_builtin; refine wpList_append_lies _ rfl (.tmp 32) (.tmp 34) 22 rfl W2.heap.size 3 i0 (.int .i64 0) 1 8 Try.underlying22 HI.out hz0 hz1 hz2 rfl (by decide) _ j (intsC (regsOf X j)) rfl C1.out ⟨wr.heap.size, 0, none⟩ 1 1 [.int .i64 z] rfl rfl (cells_made wr _ [.int .i64 z]) (by simp [Value.oneCell']) (by decide) LB1.out LB2.out LE.out (wr.heap.size + 1) (by simp) ?_)
        intro g cap w1 ho1 hg1 _ _
        have HR := Lib.hid (HNX.out g cap w1 ho1 hg1)
        clear ho1 hg1 C1 LB1 LB2 LE O3 B3 HNX hc
        go_wp2
        go_roundw
        case rel => exact ⟨j + 1, by omega, by go_num, HR⟩
        case measure => simp [intOf]; omega
    · have hje : j = no := by omega
      subst hje
      have hbw : Below W.heap.size W wr := HB2.out.trans (B3.out.mono HB2.out.size)
      have k0 := K0.out.below B3.out K0.out.lt
      have k1 := K1.out.below B3.out K1.out.lt
      have n0 := k0.at_ 0
      have n1 := k0.at_ 1
      have n2 := k0.at_ 2
      have n3 := k0.at_ 3
      have n4 := k0.at_ 4
      have n5 := k0.at_ 5
      simp only [List.getElem?_toArray, List.getElem?_cons_zero, List.getElem?_cons_succ] at n0 n1 n2 n3 n4 n5
      have hrs : RowS wr (.slice ao j cp) (regsOf X j) := rowS_of O3.out (regsOf_length X j)
      have HWT := Lib.hid (with_all_ok W0 n x _ 6 (regsOf X j) _ wr H0.out HS.out (HB0.out.trans (hbw.mono HB0.out.size)) hrs (by rw [regsOf_length, HNO.out]; exact Nat.le_refl _))
      have HBW := Lib.hid hbw
      have HK1 := Lib.hid k1
      have hN2 : N + 1 + 1 ≤ wr.heap.size := Nat.le_trans hs2 B3.out.size
      clear hbw k0 k1 hrs O3 B3 K0 K1
      go_wp2_with fail
      refine HWT.out.mono ?_
      rintro e W5 ⟨ds, lw', rfl, td, _, b5⟩
      have hy1 : withP x (regsOf X j) = y1 := by rw [← HY1.out, HNO.out]
      rw [hy1] at td
      obtain ⟨k1, nm1, u1, r1, R1, lr1, cr1, A1, la1, ca1, rfl⟩ := td.shape
      obtain ⟨oX, hoX⟩ : ∃ o, Obj.cells #[.int .i64 k1, .string nm1, .bool u1, .int .i64 r1, .slice R1 lr1 cr1, .slice A1 la1 ca1] 25 = o := ⟨_, rfl⟩
      have j1 := (HK1.out.below b5 HK1.out.lt).alloc oX
      have q0 := j1.at_ 0
      have q1 := j1.at_ 1
      have q2 := j1.at_ 2
      have q3 := j1.at_ 3
      have q4 := j1.at_ 4
      have q5 := j1.at_ 5
      have g0 : ∀ i, (W5.alloc oX).frozen? ⟨N + 1, i, none⟩ = false := fun i => j1.free i
      simp only [List.getElem?_toArray, List.getElem?_cons_zero, List.getElem?_cons_succ] at q0 q1 q2 q3 q4 q5
      obtain ⟨Y, hY⟩ : ∃ Y, W5.alloc oX = Y := ⟨_, rfl⟩
      have hYs : Y.heap.size = W5.heap.size + 1 := by rw [← hY]; simp
      have HEND : Hid (∀ W' : World, But (N + 1) Y W' → TyAt (only (qW W0.heap.size W.heap.size) W') n y1 [.int .i64 k1, .string nm1, .bool u1, .int .i64 r1, .slice R1 lr1 cr1, .slice A1 la1 ca1] ∧ Below W.heap.size W W') := fun W' hb => by
        have h5 : Below W.heap.size W Y := by rw [← hY]; exact (HBW.out.trans (b5.mono HBW.out.size)).alloc (Nat.le_trans HBW.out.size b5.size) oX
        have hNW := HB0.out.size
        rw [HN.out] at hNW
        refine ⟨td.kept (fun b hb1 hq => ?_) (by rw [hb.size, hYs]; omega) (fun b hb1 hq => ?_), ⟨hb.os.trans h5.os, hb.tape.trans h5.tape, hb.output.trans h5.output, by rw [hb.size]; exact h5.size, fun b hb1 => (hb.block b (by rw [HN.out] at hb1; omega)).trans (h5.block b hb1)⟩⟩
        · simp only [qW, Bool.or_eq_true, decide_eq_true_eq] at hq ⊢
          rw [HN.out]
          omega
        simp only [qW, Bool.or_eq_true, decide_eq_true_eq] at hq
        rw [hb.block b (by omega), ← hY]
        exact Below.heap_alloc W5 oX b hb1
      have HSET : Hid (∀ (v0 v1 v2 v3 v4 v5 : Value), But (N + 1) Y ((((((Y.setCell ⟨N + 1, 0, none⟩ v0).setCell ⟨N + 1, 1, none⟩ v1).setCell ⟨N + 1, 2, none⟩ v2).setCell ⟨N + 1, 3, none⟩ v3).setCell ⟨N + 1, 4, none⟩ v4).setCell ⟨N + 1, 5, none⟩ v5)) := fun v0 v1 v2 v3 v4 v5 =>
        ((((((But.refl (N + 1) Y).put 0 v0).put 1 v1).put 2 v2).put 3 v3).put 4 v4).put 5 v5
      have HY := Lib.hid hY
      have HOX := Lib.hid hoX
      rw [← hoX] at q0 q1 q2 q3 q4 q5 g0
      have hne : N + 1 ≠ W5.heap.size := by have := b5.size; omega
      clear td b5 j1 hY hYs hoX HWT hy1
      go_wp2
      rw [HOX.out, HY.out]
      refine bodyPost_ret (v := .agg #[.int .i64 k1, .string nm1, .bool u1, .int .i64 r1, .slice R1 lr1 cr1, .slice A1 la1 ca1]) ?hres rfl ?hend
      case hres =>
        rw [HOX.out, HY.out] at q0 q1 q2 q3 q4 q5
        simp [results, Try.results11, go_sem, q0, q1, q2, q3, q4, q5]
      case hend =>
        have hbut := HSET.out (.int .i64 k1) (.string nm1) (.bool u1) (.int .i64 r1) (.slice R1 lr1 cr1) (.slice A1 la1 ca1)
        obtain ⟨e1, e2⟩ := HEND.out _ hbut
        exact ⟨[.int .i64 k1, .string nm1, .bool u1, .int .i64 r1, .slice R1 lr1 cr1, .slice A1 la1 ca1], rfl, e1, e2⟩
theorem regions_any {n : Nat} {x : Ty} {cs : List Value} {X : List Int} {lv : Value} {W : World} (h : TyAt W n x cs) (hs : Slim 6 x) (hx : RowI W lv X) :
    Calls Try.prog 11 #[.agg cs.toArray, lv] W fun e W' => ∃ ds : List Value, e = .returned (.agg ds.toArray) ∧ TyAt W' n (withP x (regsOf X (allP x).length)) ds ∧ Below W.heap.size W W' :=
  (regions_at h (.refl _ _) hs hx).mono fun _ _ ⟨ds, h1, h2, h3⟩ => ⟨ds, h1, h2.whole, h3⟩
end Sb
end Go.Proofs.Ytebnonbfjkielaa
