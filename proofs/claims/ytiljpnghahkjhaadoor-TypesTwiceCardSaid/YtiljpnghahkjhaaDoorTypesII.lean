/- Layer 7: the law TypesTwice. -/
import Derived.BigQuiet
import Derived.Deep.QuietTactic
import Derived.Deep.RegionHeld3
import Derived.Test.YtiljpnghahkjhaaDoorTypesIG
import Derived.Test.YtiljpnghahkjhaaDoorTypesIH
import Derived.Test.YtiljpnghahkjhaaDoorTypesE
import Derived.Test.YtiljpnghahkjhaaDoorTypesQ
namespace Go.Proofs.YtiljpnghahkjhaaDoor
open Go.RowKit Go.Deep Tr
namespace Ts
def bothP (ma mb : List Int) (q : Nat) : List Int := (ma.take q).map fun z => mb.getD (z - 1).toNat 0
set_option maxHeartbeats 16000000 in
set_option maxRecDepth 100000 in
theorem typesTwice_walk {n : Nat} {x : Ty} {cs : List Value} {W : World} {va vb : Value} {ma mb : List Int} (h : TyAt W n x cs) (ha : RowI W va ma) (hb : RowI W vb mb) :
    Calls Tryd.prog 6 #[.agg cs.toArray, va, vb] W fun e W' => e = .returned (.bool true) ∧ Below W.heap.size W W' := by
  obtain ⟨k, nm, u, r, R, lr, cr, A, la, ca, rfl⟩ := h.shape
  have hra := ha
  have hrb := hb
  obtain ⟨Aa, cla, rfl, hal⟩ := ha
  obtain ⟨Ab, clb, rfl, hbl⟩ := hb
  have hLa := hal.le
  have hLb := hbl.le
  unfold maxLen at hLa hLb
  obtain ⟨na, hna⟩ : ∃ j, ma.length = j := ⟨_, rfl⟩
  obtain ⟨nb, hnb⟩ : ∃ j, mb.length = j := ⟨_, rfl⟩
  have HNA := Lib.hid hna
  have HNB := Lib.hid hnb
  rw [hna] at hLa hra ⊢
  rw [hnb] at hLb hrb ⊢
  obtain ⟨o1, ho1⟩ : ∃ o, Obj.cells #[.int .i64 k, .string nm, .bool u, .int .i64 r, .slice R lr cr, .slice A la ca] 25 = o := ⟨_, rfl⟩
  have B1 : Below W.heap.size W (W.alloc o1) := (Below.refl _ W).alloc (Nat.le_refl _) o1
  have i1 : Is (W.alloc o1) W.heap.size 25 #[.int .i64 k, .string nm, .bool u, .int .i64 r, .slice R lr cr, .slice A la ca] := by rw [← ho1]; exact Is.made W _ _
  obtain ⟨V, hV⟩ : ∃ V, W.alloc o1 = V := ⟨_, rfl⟩
  rw [hV] at B1 i1
  have HV : Hid (W.alloc (.cells #[.int .i64 k, .string nm, .bool u, .int .i64 r, .slice R lr cr, .slice A la ca] 25) = V) := by rw [← hV, ← ho1]; exact rfl
  have KC : Hid (∀ X, Below V.heap.size V X → (X.cell? ⟨W.heap.size, 0, none⟩ = some (.int .i64 k) ∧ X.cell? ⟨W.heap.size, 1, none⟩ = some (.string nm) ∧ X.cell? ⟨W.heap.size, 2, none⟩ = some (.bool u) ∧ X.cell? ⟨W.heap.size, 3, none⟩ = some (.int .i64 r) ∧ X.cell? ⟨W.heap.size, 4, none⟩ = some (.slice R lr cr) ∧ X.cell? ⟨W.heap.size, 5, none⟩ = some (.slice A la ca))) := by
    intro X hX
    have j1 := i1.below hX i1.lt
    exact ⟨j1.at_ 0, j1.at_ 1, j1.at_ 2, j1.at_ 3, j1.at_ 4, j1.at_ 5⟩
  have HT : Hid (∀ X, Below V.heap.size V X → TyAt X n x [.int .i64 k, .string nm, .bool u, .int .i64 r, .slice R lr cr, .slice A la ca]) := fun X hX => TyAt.below (B1.trans (hX.mono B1.size)) _ _ _ h
  have HRA : Hid (∀ X, Below V.heap.size V X → RowI X (.slice Aa na cla) ma) := fun X hX => hra.below (B1.trans (hX.mono B1.size))
  have HLA : Hid (∀ X, Below V.heap.size V X → ListAt X 1 IntAt Aa ma) := fun X hX => hal.below (B1.trans (hX.mono B1.size)) (fun _ _ _ h => h)
  have HLB : Hid (∀ X, Below V.heap.size V X → ListAt X 1 IntAt Ab mb) := fun X hX => hbl.below (B1.trans (hX.mono B1.size)) (fun _ _ _ h => h)
  have HRB : Hid (∀ X, Below V.heap.size V X → RowI X (.slice Ab nb clb) mb) := fun X hX => hrb.below (B1.trans (hX.mono B1.size))
  have HB := Lib.hid B1
  have HWV : Hid (∀ X, Below V.heap.size V X → Below W.heap.size W X) := fun X hX => B1.trans (hX.mono B1.size)
  clear h hra hrb hal hbl hna hnb ho1 B1 i1 hV
  go_enter Tryd.func6, Tryd.ntmps6
  go_wp2_with fail
  rw [HV.out]
  refine (typed_any V).mono ?_
  rintro e W1 ⟨rfl, b1⟩
  have G1 := Lib.hid b1
  clear b1
  obtain ⟨n0, n1, n2, n3, n4, n5⟩ := KC.out W1 G1.out
  have HSA := Lib.hid (small_any n x _ 6 W1 (HT.out W1 G1.out) (by decide))
  go_wp2_with fail
  refine HSA.out.mono ?_
  rintro e W2 ⟨⟨sa, rfl, hsa⟩, b2⟩
  have G2 := Lib.hid (G1.out.trans (b2.mono G1.out.size))
  clear b2 HSA n0 n1 n2 n3 n4 n5
  cases sa with
  | false =>
    go_wp2_with fail
    refine (typed_any W2).mono ?_
    rintro e W3 ⟨rfl, b3⟩
    have G3 := Lib.hid (HWV.out _ (G2.out.trans (b3.mono G2.out.size)))
    clear b3
    go_wp2
    go_ret
    exact ⟨rfl, G3.out⟩
  | true =>
    have SA := Lib.hid (hsa rfl)
    clear hsa
    by_cases h10 : 10 < na
    · go_wp2_with fail
      refine (typed_any W2).mono ?_
      rintro e W3 ⟨rfl, b3⟩
      have G3 := Lib.hid (HWV.out _ (G2.out.trans (b3.mono G2.out.size)))
      clear b3
      go_wp2
      go_ret
      exact ⟨rfl, G3.out⟩
    by_cases h11 : 10 < nb
    · go_wp2_with fail
      refine (typed_any W2).mono ?_
      rintro e W3 ⟨rfl, b3⟩
      have G3 := Lib.hid (HWV.out _ (G2.out.trans (b3.mono G2.out.size)))
      clear b3
      go_wp2
      go_ret
      exact ⟨rfl, G3.out⟩
    obtain ⟨n0, n1, n2, n3, n4, n5⟩ := KC.out W2 G2.out
    have hall : (allP x).length ≤ Big := Nat.le_trans (all_le 6 x SA.out) (by decide)
    have HAL := Lib.hid hall
    clear hall
    obtain ⟨L, hL⟩ : ∃ l, allP x = l := ⟨_, rfl⟩
    have HL := Lib.hid hL
    go_wp2_with fail
    refine (rall_any n x _ W2 (HT.out W2 G2.out) HAL.out).mono ?_
    rintro e W3 ⟨v, rfl, r3, b3⟩
    rw [hL] at r3
    have G3 := Lib.hid (G2.out.trans (b3.mono G2.out.size))
    obtain ⟨A3, c3, rfl, hl3⟩ := r3
    have hle3 := hl3.le
    unfold maxLen at hle3
    obtain ⟨m3, hm3⟩ : ∃ j, L.length = j := ⟨_, rfl⟩
    have HM3 := Lib.hid hm3
    have HL3 := Lib.hid hl3
    rw [hm3] at hle3 ⊢
    clear b3 hl3 hm3 hL n0 n1 n2 n3 n4 n5
    go_wp2
    go_loopw [8] (fun i wr => ∃ j : Nat, j ≤ m3 ∧ i = .int .i64 j ∧ wr = W3 ∧ Hid (∀ q, q < j → ∀ z, L[q]? = some z → 1 ≤ z ∧ z ≤ na)) (fun i _ => m3 - (intOf i).toNat)
    case atStart => exact ⟨0, Nat.zero_le _, rfl, rfl, fun q hq => absurd hq (Nat.not_lt_zero _)⟩
    case round =>
      obtain ⟨j, hj, rfl, hwr, HR1⟩ := hrel
      rw [hwr]
      clear hwr
      by_cases hjm : j < m3
      · have hjl : j < L.length := by rw [HM3.out]; exact hjm
        obtain ⟨bk, o, rfl, _, d⟩ := int_at HL3.out hjl
        have hz : L[j]? = some L[j] := List.getElem?_eq_getElem hjl
        obtain ⟨z, hzz⟩ : ∃ z, L[j] = z := ⟨_, rfl⟩
        rw [hzz] at d hz
        by_cases z1 : z < 1
        · clear hz hzz hjl
          go_wp2
          go_ret
          exact ⟨rfl, HWV.out _ G3.out⟩
        · by_cases z2 : (na : Int) < z
          · clear hz hzz hjl
            go_wp2
            go_ret
            exact ⟨rfl, HWV.out _ G3.out⟩
          · have HR2 : Hid (∀ q, q < j + 1 → ∀ y, L[q]? = some y → 1 ≤ y ∧ y ≤ na) := by
              intro q hq y hy
              by_cases hqj : q = j
              · subst hqj
                rw [hz] at hy
                injection hy with hy
                omega
              · exact HR1.out q (by omega) y hy
            clear hz hzz hjl HR1
            go_wp2
            go_roundw
            case rel => exact ⟨j + 1, by omega, by go_num, trivial, HR2⟩
            case measure => simp [intOf]; omega
      · have hjm' : j = m3 := by omega
        subst hjm'
        have HIN : Hid (∀ z, z ∈ L → 1 ≤ z ∧ z ≤ na) := by
          intro z hz
          obtain ⟨q, hq, e⟩ := List.getElem_of_mem hz
          exact HR1.out q (by rw [← HM3.out]; exact hq) z (by rw [List.getElem?_eq_getElem hq, e])
        clear HR1 HM3 HL3 hj hjm
        obtain ⟨i0, hi0, hz0, hz1, hz2⟩ := info_parts info_int
        have HI := Lib.hid hi0
        clear hi0
        have O0 : Hid (W3.ownsRow W3.heap.size 3 1 (.slice none 0 0) 0 (intsC (bothP ma mb 0))) := World.ownsRow_nil _ _ _ _
        go_wp2
        go_loopw [9, 10] (fun v i w4 => ∃ q : Nat, q ≤ na ∧ i = .int .i64 q ∧ Hid (w4.ownsRow W3.heap.size 3 1 v q (intsC (bothP ma mb q)) ∧ Below W3.heap.size W3 w4 ∧ ∀ s, s < q → ∀ z, ma[s]? = some z → 1 ≤ z ∧ z ≤ nb)) (fun _ i _ => na - (intOf i).toNat)
        case atStart => exact ⟨0, Nat.zero_le _, rfl, O0.out, .refl _ _, fun s hs => absurd hs (Nat.not_lt_zero _)⟩
        clear O0
        case round =>
          obtain ⟨q, hq, rfl, HQ⟩ := hrel
          obtain ⟨o4, b4, r4⟩ := HQ.out
          obtain ⟨ao, cp, rfl, _⟩ := own_slice o4
          have G4 := Lib.hid (G3.out.trans (b4.mono G3.out.size))
          by_cases hqn : q < na
          · have hql : q < ma.length := by rw [HNA.out]; exact hqn
            obtain ⟨bk, o, rfl, _, d⟩ := int_at (HLA.out _ G4.out) hql
            have hz : ma[q]? = some ma[q] := List.getElem?_eq_getElem hql
            obtain ⟨z, hzz⟩ : ∃ z, ma[q] = z := ⟨_, rfl⟩
            rw [hzz] at d hz
            by_cases z1 : z < 1
            · have B4 := Lib.hid b4
              clear hz hzz hql o4 b4 r4 HQ
              go_wp2
              go_ret
              exact ⟨rfl, HWV.out _ G4.out⟩
            · by_cases z2 : (nb : Int) < z
              · have B4 := Lib.hid b4
                clear hz hzz hql o4 b4 r4 HQ
                go_wp2
                go_ret
                exact ⟨rfl, HWV.out _ G4.out⟩
              · obtain ⟨e, rfl⟩ : ∃ e : Nat, z = (e : Int) + 1 := ⟨(z - 1).toNat, by omega⟩
                have hel : e < mb.length := by rw [HNB.out]; omega
                obtain ⟨bk', o', rfl, _, d'⟩ := int_at (HLB.out _ G4.out) hel
                obtain ⟨y, hy⟩ : ∃ y, mb[e] = y := ⟨_, rfl⟩
                rw [hy] at d'
                have hbt : bothP ma mb (q + 1) = bothP ma mb q ++ [y] := by
                  unfold bothP
                  rw [List.take_succ_eq_append_getElem hql, List.map_append, hzz]
                  simp only [List.map_cons, List.map_nil]
                  rw [show ((e : Int) + 1 - 1).toNat = e by omega, List.getD_eq_getElem?_getD, List.getElem?_eq_getElem hel, Option.getD_some, hy]
                have HBT := Lib.hid hbt
                have HR5 : Hid (∀ s, s < q + 1 → ∀ z, ma[s]? = some z → 1 ≤ z ∧ z ≤ nb) := by
                  intro s hs z' hz'
                  by_cases hsq : s = q
                  · subst hsq
                    rw [hz] at hz'
                    injection hz' with hz'
                    omega
                  · exact r4 s (by omega) z' hz'
                have hA : Below wr.heap.size wr (wr.alloc (.cells #[.int .i64 y] 3)) := (Below.refl _ _).alloc (Nat.le_refl _) _
                have O4 := Lib.hid (own_below o4 hA)
                have B4 := Lib.hid b4
                have LB1 : Hid (q + 1 ≤ maxLen) := by show _ ≤ maxLen; unfold maxLen; omega
                have LB2 : Hid ((q + 1) * 8 ≤ 140737488355328) := by show _ ≤ 140737488355328; omega
                have LE : Hid (W3.heap.size ≤ (wr.alloc (.cells #[.int .i64 y] 3)).heap.size) := by show _ ≤ _; have := b4.size; simp; omega
                clear hz hzz hql o4 b4 r4 HQ hbt hy hel hA
                go_wp2_with (at_builtin; refine wpList_append_lies _ rfl (.tmp 71) (.tmp 80) 22 rfl W3.heap.size 3 i0 (.int .i64 0) 1 8 Tryd.underlying22 HI.out hz0 hz1 hz2 rfl (by decide) _ q (intsC (bothP ma mb q)) rfl O4.out ⟨wr.heap.size, 0, none⟩ 1 1 [.int .i64 y] rfl rfl (cells_made wr _ [.int .i64 y]) (by simp [Value.oneCell']) (by decide) LB1.out LB2.out LE.out (wr.heap.size + 1) (by simp) ?_)
                intro g cap w5 ho5 hg5 _ _
                have HR6 : Hid (w5.ownsRow W3.heap.size 3 1 (.slice (some ⟨g, 0, none⟩) (q + 1) cap) (q + 1) (intsC (bothP ma mb (q + 1))) ∧ Below W3.heap.size W3 w5 ∧ ∀ s, s < q + 1 → ∀ z, ma[s]? = some z → 1 ≤ z ∧ z ≤ nb) :=
                  ⟨by rw [HBT.out]; simpa [intsC] using ho5, below_own (B4.out.alloc B4.out.size _) O4.out (Nat.le_refl _) (B4.out.alloc B4.out.size _).size hg5, HR5.out⟩
                clear ho5 hg5 O4 LB1 LB2 LE HBT B4 HR5 G4
                go_wp2
                go_roundw
                case rel => exact ⟨q + 1, by omega, by go_num, HR6⟩
                case measure => simp [intOf]; omega
          · have hqe : q = na := by omega
            subst hqe
            obtain ⟨mc, hmc⟩ : ∃ l, bothP ma mb q = l := ⟨_, rfl⟩
            have hmcl : mc.length = q := by rw [← hmc]; unfold bothP; rw [List.length_map, List.length_take, HNA.out, Nat.min_self]
            rw [hmc] at o4
            have hrow : RowI wr (.slice ao q cp) mc := (rowI_own o4).1
            have hcomp : ∀ y ∈ allP x, lifeP mb (lifeP ma y) = lifeP mc y := by
              intro y hy
              rw [HL.out] at hy
              obtain ⟨y1, y2⟩ := HIN.out y hy
              obtain ⟨e, rfl⟩ : ∃ e : Nat, y = (e : Int) + 1 := ⟨(y - 1).toNat, by omega⟩
              have he : e < ma.length := by rw [HNA.out]; omega
              have he2 : e < mc.length := by omega
              have ee : ((e : Int) + 1 - 1).toNat = e := by omega
              have hz : ma[e]? = some ma[e] := List.getElem?_eq_getElem he
              obtain ⟨z1, z2⟩ := r4 e (by omega) _ hz
              have h1 : lifeP ma ((e : Int) + 1) = ma[e] := by
                unfold lifeP
                rw [if_neg (by omega), ee, List.getD_eq_getElem?_getD, hz, Option.getD_some]
              have h2 : lifeP mb ma[e] = mb.getD (ma[e] - 1).toNat 0 := by
                unfold lifeP
                rw [if_neg (by have := HNB.out; omega)]
              have h3 : lifeP mc ((e : Int) + 1) = mb.getD (ma[e] - 1).toNat 0 := by
                unfold lifeP
                rw [if_neg (by omega), ee, ← hmc, bothP, List.getD_eq_getElem?_getD, List.getElem?_map, List.getElem?_take, if_pos (by omega), hz]
                rfl
              rw [h1, h2, h3]
            have htwo := inst_two (φ := lifeP ma) (ψ := lifeP mb) (χ := lifeP mc) x hcomp
            have hidx : instP (lifeP []) x = x := inst_id (fun y => by unfold lifeP; rw [if_pos (by simp; omega)]) x
            have s1 := slim_inst (lifeP ma) 6 x SA.out
            obtain ⟨xa, hxa⟩ : ∃ y, instP (lifeP ma) x = y := ⟨_, rfl⟩
            obtain ⟨xc, hxc⟩ : ∃ y, instP (lifeP mc) x = y := ⟨_, rfl⟩
            have s2 := slim_inst (lifeP mc) 6 x SA.out
            rw [hxa] at htwo s1
            rw [hxc] at htwo s2
            have hbc : (allP xc).length ≤ Big := Nat.le_trans (all_le 6 xc s2) (by decide)
            have HI0 : Hid (∀ X, Below V.heap.size V X → Calls Tryd.prog 21 #[.agg #[.int .i64 k, .string nm, .bool u, .int .i64 r, .slice R lr cr, .slice A la ca], .slice none 0 0, .slice none 0 0, .slice none 0 0] X fun e W' => ∃ ds, e = .returned (.agg (List.toArray ds)) ∧ TyAt W' n x ds ∧ Below X.heap.size X W') := fun X hX =>
              (inst_any (HT.out X hX) SA.out (RowI.nil X)).mono fun _ _ ⟨ds, e, ht, hb⟩ => ⟨ds, e, by rw [hidx] at ht; exact ht.whole, hb⟩
            have HQ0 : Hid (∀ X ds, Below V.heap.size V X → TyAt X n x ds → Calls Tryd.prog 17 #[.agg (List.toArray ds), .agg #[.int .i64 k, .string nm, .bool u, .int .i64 r, .slice R lr cr, .slice A la ca]] X fun e W' => e = .returned (.bool true) ∧ Below X.heap.size X W') := fun X ds hX hd =>
              (requal_any hd (HT.out X hX) HAL.out HAL.out).mono fun _ _ ⟨e, hb⟩ => ⟨by rw [e, equal_refl], hb⟩
            have HI1 : Hid (∀ X, Below V.heap.size V X → Calls Tryd.prog 21 #[.agg #[.int .i64 k, .string nm, .bool u, .int .i64 r, .slice R lr cr, .slice A la ca], .slice Aa q cla, .slice none 0 0, .slice none 0 0] X fun e W' => ∃ ds, e = .returned (.agg (List.toArray ds)) ∧ TyAt W' n xa ds ∧ Below X.heap.size X W') := fun X hX =>
              (inst_any (HT.out X hX) SA.out (HRA.out X hX)).mono fun _ _ ⟨ds, e, ht, hb⟩ => ⟨ds, e, by rw [hxa] at ht; exact ht.whole, hb⟩
            have HI2 : Hid (∀ X ds, Below V.heap.size V X → TyAt X n xa ds → Calls Tryd.prog 21 #[.agg (List.toArray ds), .slice Ab nb clb, .slice none 0 0, .slice none 0 0] X fun e W' => ∃ es, e = .returned (.agg (List.toArray es)) ∧ TyAt W' n xc es ∧ Below X.heap.size X W') := fun X ds hX hd =>
              (inst_any hd s1 (HRB.out X hX)).mono fun _ _ ⟨es, e, ht, hb⟩ => ⟨es, e, by rw [htwo] at ht; exact ht.whole, hb⟩
            have HI3 : Hid (∀ X es, Below wr.heap.size wr X → TyAt X n xc es → Calls Tryd.prog 21 #[.agg #[.int .i64 k, .string nm, .bool u, .int .i64 r, .slice R lr cr, .slice A la ca], .slice ao q cp, .slice none 0 0, .slice none 0 0] X fun e W' => ∃ fs, e = .returned (.agg (List.toArray fs)) ∧ TyAt W' n xc fs ∧ TyAt W' n xc es ∧ Below X.heap.size X W') := fun X es hX he =>
              (inst_any (HT.out X (G4.out.trans (hX.mono G4.out.size))) SA.out (hrow.below hX)).mono fun _ _ ⟨fs, e, ht, hb⟩ => ⟨fs, e, by rw [hxc] at ht; exact ht.whole, TyAt.below hb _ _ _ he, hb⟩
            have HQ1 : Hid (∀ X es fs, TyAt X n xc es → TyAt X n xc fs → Calls Tryd.prog 17 #[.agg (List.toArray es), .agg (List.toArray fs)] X fun e W' => e = .returned (.bool true) ∧ Below X.heap.size X W') := fun X es fs he hf =>
              (requal_any he hf hbc hbc).mono fun _ _ ⟨e, hb⟩ => ⟨by rw [e, equal_refl], hb⟩
            clear HQ o4 b4 r4 hmc hmcl hrow hcomp htwo hidx s1 s2 hxa hxc hbc HAL SA HRA HRB HLA HLB HL HIN HNA HNB HT
            have HVR : Hid (∀ X, Below wr.heap.size wr X → Below V.heap.size V X) := fun X hX => G4.out.trans (hX.mono G4.out.size)
            have KC3 : Hid (∀ X, Below wr.heap.size wr X → (X.cell? ⟨W.heap.size, 0, none⟩ = some (.int .i64 k) ∧ X.cell? ⟨W.heap.size, 1, none⟩ = some (.string nm) ∧ X.cell? ⟨W.heap.size, 2, none⟩ = some (.bool u) ∧ X.cell? ⟨W.heap.size, 3, none⟩ = some (.int .i64 r) ∧ X.cell? ⟨W.heap.size, 4, none⟩ = some (.slice R lr cr) ∧ X.cell? ⟨W.heap.size, 5, none⟩ = some (.slice A la ca))) := fun X hX => KC.out X (HVR.out X hX)
            have D0 : Hid (Below wr.heap.size wr wr.drew) := ⟨rfl, rfl, rfl, Nat.le_refl _, fun _ _ => rfl⟩
            clear KC HB G1 G2 G3 G4
            go_wp2_with fail
            clear hLa hLb hle3 h10 h11 HV HI
            go_region_held3 (fun X => (X.cell? ⟨W.heap.size, 0, none⟩ = some (.int .i64 k) ∧ X.cell? ⟨W.heap.size, 1, none⟩ = some (.string nm) ∧ X.cell? ⟨W.heap.size, 2, none⟩ = some (.bool u) ∧ X.cell? ⟨W.heap.size, 3, none⟩ = some (.int .i64 r) ∧ X.cell? ⟨W.heap.size, 4, none⟩ = some (.slice R lr cr) ∧ X.cell? ⟨W.heap.size, 5, none⟩ = some (.slice A la ca)))
              (first
                | exact KC3.out _ D6.out
                | exact KC3.out _ D5.out
                | exact KC3.out _ D4.out
                | exact KC3.out _ D3.out
                | exact KC3.out _ D2.out
                | exact KC3.out _ D1.out
                | exact KC3.out _ D0.out)
              (first
                | (go_at_call 17; refine (HQ1.out _ _ _ T6.out U6.out).mono ?_; rintro e w6 ⟨rfl, b⟩; have D6 := Lib.hid (D5.out.trans (b.mono D5.out.size)); clear b)
                | (go_at_call 21; refine (HI3.out _ _ D4.out T4.out).mono ?_; rintro e w5 ⟨fs, rfl, hf, he, b⟩; have D5 := Lib.hid (D4.out.trans (b.mono D4.out.size)); have T6 := Lib.hid he; have U6 := Lib.hid hf; clear b he hf)
                | (go_at_call 21; refine (HI2.out _ _ (HVR.out _ D3.out) T3.out).mono ?_; rintro e w4 ⟨es, rfl, he, b⟩; have D4 := Lib.hid (D3.out.trans (b.mono D3.out.size)); have T4 := Lib.hid he; clear b he)
                | (go_at_call 21; refine (HI1.out _ (HVR.out _ D2.out)).mono ?_; rintro e w3 ⟨ds, rfl, hd, b⟩; have D3 := Lib.hid (D2.out.trans (b.mono D2.out.size)); have T3 := Lib.hid hd; clear b hd)
                | (go_at_call 17; refine (HQ0.out _ _ (HVR.out _ D1.out) T1.out).mono ?_; rintro e w2 ⟨rfl, b⟩; have D2 := Lib.hid (D1.out.trans (b.mono D1.out.size)); clear b)
                | (go_at_call 21; refine (HI0.out _ (HVR.out _ D0.out)).mono ?_; rintro e w1 ⟨d1, rfl, hd, b⟩; have D1 := Lib.hid (D0.out.trans (b.mono D0.out.size)); have T1 := Lib.hid hd; clear b hd))
            all_goals
              go_wp2
              go_ret
              exact ⟨rfl, HWV.out _ (HVR.out _ D6.out)⟩
end Ts
end Go.Proofs.YtiljpnghahkjhaaDoor
