/- The law's same: is an answer the document's. -/
import Derived.Test.YtbeepedobnaojaaDoorIntsR
import Derived.Test.YtbeepedobnaojaaDoorFlowS
namespace Go.Proofs.YtbeepedobnaojaaDoor
open Go.RowKit Lf Go.Deep Sv Tr
namespace Fl
theorem natsC_ints (l : List Nat) : natsC l = intsC (l.map fun (x : Nat) => (x : Int)) := by simp [natsC, intsC]
theorem own_ints {w : World} {B : Nat} {v : Value} {l : List Nat} (h : Own w B v l) : RowI w v (l.map fun (x : Nat) => (x : Int)) := by
  unfold Own at h
  rw [natsC_ints] at h
  exact (rowI_own h).1
theorem inn_self (n : Nat) : inn n (n : Int) = false := by unfold inn; rw [decide_eq_false (by omega : ¬((n : Int) < n))]; simp
theorem inn_neg (n : Nat) : inn n (-1) = false := by unfold inn; rw [decide_eq_false (by omega : ¬((0 : Int) ≤ -1))]; rfl
set_option maxHeartbeats 8000000 in
set_option maxRecDepth 100000 in
theorem same_fwd {w : World} {a n m : Nat} {Y : Nat → Nat} {vs vg vk ve : Value} {p : Pb} (hA : Ans w a n m Y) (h : PbAt w vs vg vk ve p) (ho : codeP p = 0) (hn : p.succ.length = n) (hn64 : n ≤ 64) (hm : p.width = m) (hm4 : m ≤ 4000)
    (hY : ∀ e i, e < m → i < n → (Y e).testBit i = frounds p (e : Int) (n + 1) i) :
    Calls Tryd.prog 14 #[.pointer (some ⟨a, 0, none⟩), pbV vs vg vk ve p.width, .func (.func 15) #[] #[]] w fun x w' => x = .returned (.bool true) ∧ Below w.heap.size w w' := by
  obtain ⟨i0, hi0, hz0, hz1, hz2⟩ := info_parts info_int
  have HI0 := Lib.hid hi0
  obtain ⟨V, hV⟩ : ∃ V, w.alloc (.cells #[vs, .int .i64 p.width, vg, vk, ve] 25) = V := ⟨_, rfl⟩
  have hB0 : Below w.heap.size w V := hV ▸ (Below.refl _ w).alloc (Nat.le_refl _) _
  have hb0 : Bx V w.heap.size vs vg vk ve p.width := hV ▸ Is.made w _ _
  have hP := h.below hB0
  have hOF : ∀ W, Below V.heap.size V W → ∀ e : Nat, Calls Tryd.prog 15 #[pbV vs vg vk ve p.width, .int .i64 e] W fun x w' => ∃ rb, x = .returned (.slice (some ⟨rb, 0, none⟩) n n) ∧ BRow w' rb n (frounds p (e : Int) (n + 1)) ∧ Below W.heap.size W w' := fun W hb e => by
    have := forward_ref (hP.below hb) ho (by omega) (e : Int)
    rw [hn] at this
    exact this
  have HA := Lib.hid (hA.below hB0)
  obtain ⟨As, cs, rfl, _⟩ := h.s
  obtain ⟨H, hH⟩ : ∃ x, w.heap.size = x := ⟨_, rfl⟩
  simp only [hn, hm, hH] at hV hB0 hb0 hOF ⊢
  have HOF := Lib.hid hOF
  have HV := Lib.hid hV
  have HH := Lib.hid hH
  have HB := Lib.hid hB0
  have HI := Lib.hid hb0
  have HY := Lib.hid hY
  have hHV : H < V.heap.size := (hb0 : Is _ _ _ _).lt
  have d1 := (hb0 : Is _ _ _ _).at_ 1
  simp at d1
  clear hA h hi0 hV hB0 hb0 hP hOF hH hY hn hm ho
  unfold pbV at HOF ⊢
  go_enter Tryd.func14, Tryd.ntmps14
  go_wp2
  rw [HV.out, HH.out]
  go_loopw [7] (fun i wr => ∃ e : Nat, e ≤ m ∧ i = .int .i64 e ∧ Hid (Below V.heap.size V wr)) (fun i _ => m - (intOf i).toNat)
  case atStart => exact ⟨0, Nat.zero_le _, rfl, Below.refl _ _⟩
  case round =>
    obtain ⟨e, he, rfl, HBW⟩ := hrel
    have I2 := (HI.out : Is _ _ _ _).below HBW.out hHV
    have d0 := I2.at_ 0
    have d1 := I2.at_ 1
    have d2 := I2.at_ 2
    have d3 := I2.at_ 3
    have d4 := I2.at_ 4
    simp at d0 d1 d2 d3 d4
    by_cases hem : e < m
    · have HF1 := Lib.hid (HOF.out wr HBW.out e)
      clear I2
      go_wp2_with fail
      refine HF1.out.mono ?_
      rintro x w2 ⟨rb, rfl, q1, q2⟩
      have HBR := Lib.hid q1
      have HB2 : Hid (Below V.heap.size V w2) := HBW.out.trans (q2.mono HBW.out.size)
      clear q1 q2 HF1 d0 d1 d2 d3 d4
      have HA2 := Lib.hid (HA.out.below HB2.out)
      go_wp2
      go_loopw [9] (fun i wr => ∃ j : Nat, j ≤ n ∧ i = .int .i64 j ∧ Hid (Below w2.heap.size w2 wr)) (fun i _ => n - (intOf i).toNat)
      case atStart => exact ⟨0, Nat.zero_le _, rfl, Below.refl _ _⟩
      case round =>
        obtain ⟨j, hj, rfl, HBJ⟩ := hrel
        by_cases hjn : j < n
        · have hhas := fun q => has_any ((HA2.out.below HBJ.out).below (below_dn wr q)) hn64 (j : Int) (e : Int)
          have g1 := (HBR.out.below HBJ.out).cell hjn
          have hval : ansB n m Y (j : Int) (e : Int) = frounds p (e : Int) (n + 1) j := by
            rw [ans_nat hjn hem]
            exact HY.out e j hem hjn
          rw [← hval] at g1
          obtain ⟨bb, hbb⟩ : ∃ bb, ansB n m Y (j : Int) (e : Int) = bb := ⟨_, rfl⟩
          simp only [hbb] at g1 hhas
          have HHA : Hid (∀ q, Calls Tryd.prog 19 #[.pointer (some ⟨a, 0, none⟩), .int .i64 j, .int .i64 e] (wr.drewN q) fun x w' => x = .returned (.bool bb) ∧ ∃ m, w' = wr.drewN m) := fun q => (hhas q).mono fun x w' ⟨h1, h2⟩ => ⟨h1, q, h2.symm⟩
          clear hval hbb hhas
          cases bb
          all_goals
            go_wp2_with fail
            go_quiet ((go_at_call 19; exact HHA.out _))
            have HBJ2 : Hid (Below w2.heap.size w2 (wr.drewN nq)) := HBJ.out.trans ((below_dn wr _).mono HBJ.out.size)
            clear HHA g1 HBJ
            go_wp2
            go_roundw
            case rel => exact ⟨j + 1, by omega, by go_num, HBJ2⟩
            case measure => simp [intOf]; omega
        · have hje : j = n := by omega
          subst hje
          have HB3 : Hid (Below V.heap.size V wr) := HB2.out.trans (HBJ.out.mono HB2.out.size)
          clear HBJ HA2 HBR HB2
          go_wp2
          go_roundw
          case rel => exact ⟨e + 1, by omega, by go_num, HB3⟩
          case measure => simp [intOf]; omega
    · have hee : m = e := by omega
      subst hee
      clear I2 d2 d3 d4
      go_wp2
      go_loopw [10] (fun i wr => ∃ j : Nat, j ≤ n ∧ i = .int .i64 j ∧ Hid (Below V.heap.size V wr)) (fun i _ => n - (intOf i).toNat)
      case atStart => exact ⟨0, Nat.zero_le _, rfl, HBW⟩
      clear HBW d0 d1
      case round =>
        obtain ⟨j, hj, rfl, HBW⟩ := hrel
        have I2 := (HI.out : Is _ _ _ _).below HBW.out hHV
        have d0 := I2.at_ 0
        have d1 := I2.at_ 1
        simp at d0 d1
        clear I2
        by_cases hjn : j < n
        · obtain ⟨B, hBs⟩ : ∃ x, wr.heap.size = x := ⟨_, rfl⟩
          obtain ⟨wo, rfl⟩ : ∃ wo : World, wo = wr := ⟨_, rfl⟩
          have HBs := Lib.hid hBs
          have hVB : V.heap.size ≤ B := hBs ▸ HBW.out.size
          have HA2 := Lib.hid (HA.out.below HBW.out)
          clear hBs
          go_wp2
          go_loopw [11, 12] (fun v i wr' => ∃ e : Nat, e ≤ m ∧ i = .int .i64 e ∧ Hid (Own wr' B v (atL n m Y j e)) ∧ Hid (Below B wo wr')) (fun _ i _ => m - (intOf i).toNat)
          case atStart => exact ⟨0, Nat.zero_le _, rfl, ⟨rfl, .inl ⟨rfl, rfl⟩⟩, Below.refl _ _⟩
          clear d0 d1
          case round =>
            obtain ⟨e, he, rfl, HO, HBE⟩ := hrel
            have hBV : Below V.heap.size V wr := HBW.out.trans (HBE.out.mono hVB)
            have I2 := (HI.out : Is _ _ _ _).below hBV hHV
            have d1 := I2.at_ 1
            simp at d1
            clear I2
            have hHas := has_any (HA.out.below hBV) hn64 (j : Int) (e : Int)
            obtain ⟨ao, cp, rfl, _⟩ := Tr.own_slice HO.out
            have hszB : B ≤ wr.heap.size := by have := HBE.out.size; have := HBs.out; omega
            by_cases hlt : e < m
            · obtain ⟨bb, hx⟩ : ∃ bb, ansB n m Y (j : Int) (e : Int) = bb := ⟨_, rfl⟩
              rw [hx] at hHas
              have HHas := Lib.hid hHas
              clear hHas hBV
              go_wp2_with fail
              refine HHas.out.mono ?_
              rintro x w2 ⟨rfl, rfl⟩
              cases bb with
              | false =>
                have HN : Hid (Own wr B (.slice ao (atL n m Y j e).length cp) (atL n m Y j (e + 1))) := by
                  show Own _ _ _ _
                  rw [atL_no hx]
                  exact HO.out
                clear hx HHas HO
                go_wp2
                go_roundw
                case rel => exact ⟨e + 1, by omega, by go_num, HN, HBE⟩
                case measure => simp [intOf]; omega
              | true =>
                obtain ⟨q, hq⟩ : ∃ q, (atL n m Y j e).length = q := ⟨_, rfl⟩
                have hqk : q ≤ 4000 := by have := atL_len n m Y j e; omega
                have HN := Lib.hid hq
                have HO1 : Hid (wr.ownsRow B 3 1 (.slice ao q cp) q (natsC (atL n m Y j e))) := by rw [← hq]; exact HO.out
                have HX := Lib.hid hx
                rw [hq]
                clear hx hq HO HHas
                go_wp2_with (at_builtin; refine wpList_append_own _ rfl _ _ 23 rfl B 3 i0 (.int .i64 0) 1 8 Tryd.underlying23 HI0.out hz0 hz1 hz2 rfl (by decide) _ _ _ rfl (HO1.out.alloc _) ⟨wr.heap.size, 0, none⟩ 1 1 [.int .i64 e] rfl rfl ?c1 ?c2 ?c3 ?c4 ?c5 ?_)
                case c1 => exact cells_made _ _ _
                case c2 => intro u hu; simp at hu; subst hu; rfl
                case c3 => unfold maxLen; omega
                case c4 => omega
                case c5 => simp; omega
                intro v2 w2 hown2 hgr _
                have HN2 : Hid (Own w2 B v2 (atL n m Y j (e + 1))) := by
                  show World.ownsRow _ _ _ _ _ _ _
                  rw [atL_yes HX.out, natsC_snoc, List.length_append, HN.out]
                  exact hown2
                have HT2 : Hid (Below B wo w2) := below_on HBE.out HO1.out (Nat.le_refl _) hszB hgr
                clear hown2 hgr
                go_wp2
                go_roundw
                case rel => exact ⟨e + 1, by omega, by go_num, HN2, HT2⟩
                case measure => simp [intOf]; omega
            · have hee : m = e := by omega
              subst hee
              have hAw := HA.out.below hBV
              have HL := Lib.hid (list_any hAw hn64 hm4 (j : Int))
              clear hHas
              have HBV := Lib.hid hBV
              have HO2 := HO
              obtain ⟨q, hq⟩ : ∃ q, (atL n m Y j m).length = q := ⟨_, rfl⟩
              have hqk : q ≤ 4000 := by have := atL_len n m Y j m; omega
              have HO3 : Hid (RowI wr (.slice ao q cp) ((atL n m Y j m).map fun (x : Nat) => (x : Int))) := by
                have := own_ints HO.out
                rw [hq] at this
                exact this
              rw [hq]
              clear hAw hBV hq HO HO2
              go_wp2_with fail
              refine HL.out.mono ?_
              rintro x w2 ⟨v2, rfl, r1, r2⟩
              have hints := ints_eq (own_ints r1) (HO3.out.below r2)
              rw [decide_eq_true rfl] at hints
              have HIN := Lib.hid hints
              have HB5 : Hid (∀ z, Below V.heap.size V (w2.drewN z)) := fun z => HBV.out.trans ((r2.trans ((below_dn w2 z).mono r2.size)).mono HBV.out.size)
              obtain ⟨a2, cp2, rfl, _⟩ := Tr.own_slice r1
              clear hints r1 r2 HL HO3 d1
              go_wp2_with fail
              refine HIN.out.mono ?_
              rintro x w3 ⟨rfl, z, rfl⟩
              have HB6 := Lib.hid (HB5.out z)
              clear HB5 HIN
              go_wp2
              go_roundw
              case rel => exact ⟨j + 1, by omega, by go_num, HB6⟩
              case measure => simp [intOf]; omega
        · have hje : j = n := by omega
          subst hje
          have hAw := HA.out.below HBW.out
          have h1 := has_any hAw hn64 (j : Int) 0
          have h2 := has_any hAw hn64 (-1) 0
          have h3 := has_any hAw hn64 0 (m : Int)
          have h4 := has_any hAw hn64 0 (-1)
          rw [show ansB j m Y (j : Int) 0 = false by unfold ansB; rw [inn_self]; rfl] at h1
          rw [show ansB j m Y (-1) 0 = false by unfold ansB; rw [inn_neg]; rfl] at h2
          rw [show ansB j m Y 0 (m : Int) = false by unfold ansB; rw [inn_self]; simp] at h3
          rw [show ansB j m Y 0 (-1) = false by unfold ansB; rw [inn_neg]; simp] at h4
          have H1 := Lib.hid h1
          have H2 := Lib.hid h2
          have H3 := Lib.hid h3
          have H4 := Lib.hid h4
          clear hAw h1 h2 h3 h4
          go_wp2_with fail
          refine H1.out.mono ?_
          rintro x w2 ⟨rfl, rfl⟩
          go_wp2_with fail
          refine H2.out.mono ?_
          rintro x w2 ⟨rfl, rfl⟩
          go_wp2_with fail
          refine H3.out.mono ?_
          rintro x w2 ⟨rfl, rfl⟩
          go_wp2_with fail
          refine H4.out.mono ?_
          rintro x w2 ⟨rfl, rfl⟩
          go_wp2
          go_ret
          exact ⟨rfl, HB.out.trans (HBW.out.mono (Nat.le_of_lt hHV))⟩
set_option maxHeartbeats 8000000 in
set_option maxRecDepth 100000 in
theorem same_bwd {w : World} {a n m : Nat} {Y : Nat → Nat} {vs vg vk ve : Value} {p : Pb} (hA : Ans w a n m Y) (h : PbAt w vs vg vk ve p) (ho : codeP p = 0) (hn : p.succ.length = n) (hn64 : n ≤ 64) (hm : p.width = m) (hm4 : m ≤ 4000)
    (hY : ∀ e i, e < m → i < n → (Y e).testBit i = brounds p (e : Int) (n + 1) i) :
    Calls Tryd.prog 14 #[.pointer (some ⟨a, 0, none⟩), pbV vs vg vk ve p.width, .func (.func 17) #[] #[]] w fun x w' => x = .returned (.bool true) ∧ Below w.heap.size w w' := by
  obtain ⟨i0, hi0, hz0, hz1, hz2⟩ := info_parts info_int
  have HI0 := Lib.hid hi0
  obtain ⟨V, hV⟩ : ∃ V, w.alloc (.cells #[vs, .int .i64 p.width, vg, vk, ve] 25) = V := ⟨_, rfl⟩
  have hB0 : Below w.heap.size w V := hV ▸ (Below.refl _ w).alloc (Nat.le_refl _) _
  have hb0 : Bx V w.heap.size vs vg vk ve p.width := hV ▸ Is.made w _ _
  have hP := h.below hB0
  have hOF : ∀ W, Below V.heap.size V W → ∀ e : Nat, Calls Tryd.prog 17 #[pbV vs vg vk ve p.width, .int .i64 e] W fun x w' => ∃ rb, x = .returned (.slice (some ⟨rb, 0, none⟩) n n) ∧ BRow w' rb n (brounds p (e : Int) (n + 1)) ∧ Below W.heap.size W w' := fun W hb e => by
    have := backward_ref (hP.below hb) ho (by omega) (e : Int)
    rw [hn] at this
    exact this
  have HA := Lib.hid (hA.below hB0)
  obtain ⟨As, cs, rfl, _⟩ := h.s
  obtain ⟨H, hH⟩ : ∃ x, w.heap.size = x := ⟨_, rfl⟩
  simp only [hn, hm, hH] at hV hB0 hb0 hOF ⊢
  have HOF := Lib.hid hOF
  have HV := Lib.hid hV
  have HH := Lib.hid hH
  have HB := Lib.hid hB0
  have HI := Lib.hid hb0
  have HY := Lib.hid hY
  have hHV : H < V.heap.size := (hb0 : Is _ _ _ _).lt
  have d1 := (hb0 : Is _ _ _ _).at_ 1
  simp at d1
  clear hA h hi0 hV hB0 hb0 hP hOF hH hY hn hm ho
  unfold pbV at HOF ⊢
  go_enter Tryd.func14, Tryd.ntmps14
  go_wp2
  rw [HV.out, HH.out]
  go_loopw [7] (fun i wr => ∃ e : Nat, e ≤ m ∧ i = .int .i64 e ∧ Hid (Below V.heap.size V wr)) (fun i _ => m - (intOf i).toNat)
  case atStart => exact ⟨0, Nat.zero_le _, rfl, Below.refl _ _⟩
  case round =>
    obtain ⟨e, he, rfl, HBW⟩ := hrel
    have I2 := (HI.out : Is _ _ _ _).below HBW.out hHV
    have d0 := I2.at_ 0
    have d1 := I2.at_ 1
    have d2 := I2.at_ 2
    have d3 := I2.at_ 3
    have d4 := I2.at_ 4
    simp at d0 d1 d2 d3 d4
    by_cases hem : e < m
    · have HF1 := Lib.hid (HOF.out wr HBW.out e)
      clear I2
      go_wp2_with fail
      refine HF1.out.mono ?_
      rintro x w2 ⟨rb, rfl, q1, q2⟩
      have HBR := Lib.hid q1
      have HB2 : Hid (Below V.heap.size V w2) := HBW.out.trans (q2.mono HBW.out.size)
      clear q1 q2 HF1 d0 d1 d2 d3 d4
      have HA2 := Lib.hid (HA.out.below HB2.out)
      go_wp2
      go_loopw [9] (fun i wr => ∃ j : Nat, j ≤ n ∧ i = .int .i64 j ∧ Hid (Below w2.heap.size w2 wr)) (fun i _ => n - (intOf i).toNat)
      case atStart => exact ⟨0, Nat.zero_le _, rfl, Below.refl _ _⟩
      case round =>
        obtain ⟨j, hj, rfl, HBJ⟩ := hrel
        by_cases hjn : j < n
        · have hhas := fun q => has_any ((HA2.out.below HBJ.out).below (below_dn wr q)) hn64 (j : Int) (e : Int)
          have g1 := (HBR.out.below HBJ.out).cell hjn
          have hval : ansB n m Y (j : Int) (e : Int) = brounds p (e : Int) (n + 1) j := by
            rw [ans_nat hjn hem]
            exact HY.out e j hem hjn
          rw [← hval] at g1
          obtain ⟨bb, hbb⟩ : ∃ bb, ansB n m Y (j : Int) (e : Int) = bb := ⟨_, rfl⟩
          simp only [hbb] at g1 hhas
          have HHA : Hid (∀ q, Calls Tryd.prog 19 #[.pointer (some ⟨a, 0, none⟩), .int .i64 j, .int .i64 e] (wr.drewN q) fun x w' => x = .returned (.bool bb) ∧ ∃ m, w' = wr.drewN m) := fun q => (hhas q).mono fun x w' ⟨h1, h2⟩ => ⟨h1, q, h2.symm⟩
          clear hval hbb hhas
          cases bb
          all_goals
            go_wp2_with fail
            go_quiet ((go_at_call 19; exact HHA.out _))
            have HBJ2 : Hid (Below w2.heap.size w2 (wr.drewN nq)) := HBJ.out.trans ((below_dn wr _).mono HBJ.out.size)
            clear HHA g1 HBJ
            go_wp2
            go_roundw
            case rel => exact ⟨j + 1, by omega, by go_num, HBJ2⟩
            case measure => simp [intOf]; omega
        · have hje : j = n := by omega
          subst hje
          have HB3 : Hid (Below V.heap.size V wr) := HB2.out.trans (HBJ.out.mono HB2.out.size)
          clear HBJ HA2 HBR HB2
          go_wp2
          go_roundw
          case rel => exact ⟨e + 1, by omega, by go_num, HB3⟩
          case measure => simp [intOf]; omega
    · have hee : m = e := by omega
      subst hee
      clear I2 d2 d3 d4
      go_wp2
      go_loopw [10] (fun i wr => ∃ j : Nat, j ≤ n ∧ i = .int .i64 j ∧ Hid (Below V.heap.size V wr)) (fun i _ => n - (intOf i).toNat)
      case atStart => exact ⟨0, Nat.zero_le _, rfl, HBW⟩
      clear HBW d0 d1
      case round =>
        obtain ⟨j, hj, rfl, HBW⟩ := hrel
        have I2 := (HI.out : Is _ _ _ _).below HBW.out hHV
        have d0 := I2.at_ 0
        have d1 := I2.at_ 1
        simp at d0 d1
        clear I2
        by_cases hjn : j < n
        · obtain ⟨B, hBs⟩ : ∃ x, wr.heap.size = x := ⟨_, rfl⟩
          obtain ⟨wo, rfl⟩ : ∃ wo : World, wo = wr := ⟨_, rfl⟩
          have HBs := Lib.hid hBs
          have hVB : V.heap.size ≤ B := hBs ▸ HBW.out.size
          have HA2 := Lib.hid (HA.out.below HBW.out)
          clear hBs
          go_wp2
          go_loopw [11, 12] (fun v i wr' => ∃ e : Nat, e ≤ m ∧ i = .int .i64 e ∧ Hid (Own wr' B v (atL n m Y j e)) ∧ Hid (Below B wo wr')) (fun _ i _ => m - (intOf i).toNat)
          case atStart => exact ⟨0, Nat.zero_le _, rfl, ⟨rfl, .inl ⟨rfl, rfl⟩⟩, Below.refl _ _⟩
          clear d0 d1
          case round =>
            obtain ⟨e, he, rfl, HO, HBE⟩ := hrel
            have hBV : Below V.heap.size V wr := HBW.out.trans (HBE.out.mono hVB)
            have I2 := (HI.out : Is _ _ _ _).below hBV hHV
            have d1 := I2.at_ 1
            simp at d1
            clear I2
            have hHas := has_any (HA.out.below hBV) hn64 (j : Int) (e : Int)
            obtain ⟨ao, cp, rfl, _⟩ := Tr.own_slice HO.out
            have hszB : B ≤ wr.heap.size := by have := HBE.out.size; have := HBs.out; omega
            by_cases hlt : e < m
            · obtain ⟨bb, hx⟩ : ∃ bb, ansB n m Y (j : Int) (e : Int) = bb := ⟨_, rfl⟩
              rw [hx] at hHas
              have HHas := Lib.hid hHas
              clear hHas hBV
              go_wp2_with fail
              refine HHas.out.mono ?_
              rintro x w2 ⟨rfl, rfl⟩
              cases bb with
              | false =>
                have HN : Hid (Own wr B (.slice ao (atL n m Y j e).length cp) (atL n m Y j (e + 1))) := by
                  show Own _ _ _ _
                  rw [atL_no hx]
                  exact HO.out
                clear hx HHas HO
                go_wp2
                go_roundw
                case rel => exact ⟨e + 1, by omega, by go_num, HN, HBE⟩
                case measure => simp [intOf]; omega
              | true =>
                obtain ⟨q, hq⟩ : ∃ q, (atL n m Y j e).length = q := ⟨_, rfl⟩
                have hqk : q ≤ 4000 := by have := atL_len n m Y j e; omega
                have HN := Lib.hid hq
                have HO1 : Hid (wr.ownsRow B 3 1 (.slice ao q cp) q (natsC (atL n m Y j e))) := by rw [← hq]; exact HO.out
                have HX := Lib.hid hx
                rw [hq]
                clear hx hq HO HHas
                go_wp2_with (at_builtin; refine wpList_append_own _ rfl _ _ 23 rfl B 3 i0 (.int .i64 0) 1 8 Tryd.underlying23 HI0.out hz0 hz1 hz2 rfl (by decide) _ _ _ rfl (HO1.out.alloc _) ⟨wr.heap.size, 0, none⟩ 1 1 [.int .i64 e] rfl rfl ?c1 ?c2 ?c3 ?c4 ?c5 ?_)
                case c1 => exact cells_made _ _ _
                case c2 => intro u hu; simp at hu; subst hu; rfl
                case c3 => unfold maxLen; omega
                case c4 => omega
                case c5 => simp; omega
                intro v2 w2 hown2 hgr _
                have HN2 : Hid (Own w2 B v2 (atL n m Y j (e + 1))) := by
                  show World.ownsRow _ _ _ _ _ _ _
                  rw [atL_yes HX.out, natsC_snoc, List.length_append, HN.out]
                  exact hown2
                have HT2 : Hid (Below B wo w2) := below_on HBE.out HO1.out (Nat.le_refl _) hszB hgr
                clear hown2 hgr
                go_wp2
                go_roundw
                case rel => exact ⟨e + 1, by omega, by go_num, HN2, HT2⟩
                case measure => simp [intOf]; omega
            · have hee : m = e := by omega
              subst hee
              have hAw := HA.out.below hBV
              have HL := Lib.hid (list_any hAw hn64 hm4 (j : Int))
              clear hHas
              have HBV := Lib.hid hBV
              have HO2 := HO
              obtain ⟨q, hq⟩ : ∃ q, (atL n m Y j m).length = q := ⟨_, rfl⟩
              have hqk : q ≤ 4000 := by have := atL_len n m Y j m; omega
              have HO3 : Hid (RowI wr (.slice ao q cp) ((atL n m Y j m).map fun (x : Nat) => (x : Int))) := by
                have := own_ints HO.out
                rw [hq] at this
                exact this
              rw [hq]
              clear hAw hBV hq HO HO2
              go_wp2_with fail
              refine HL.out.mono ?_
              rintro x w2 ⟨v2, rfl, r1, r2⟩
              have hints := ints_eq (own_ints r1) (HO3.out.below r2)
              rw [decide_eq_true rfl] at hints
              have HIN := Lib.hid hints
              have HB5 : Hid (∀ z, Below V.heap.size V (w2.drewN z)) := fun z => HBV.out.trans ((r2.trans ((below_dn w2 z).mono r2.size)).mono HBV.out.size)
              obtain ⟨a2, cp2, rfl, _⟩ := Tr.own_slice r1
              clear hints r1 r2 HL HO3 d1
              go_wp2_with fail
              refine HIN.out.mono ?_
              rintro x w3 ⟨rfl, z, rfl⟩
              have HB6 := Lib.hid (HB5.out z)
              clear HB5 HIN
              go_wp2
              go_roundw
              case rel => exact ⟨j + 1, by omega, by go_num, HB6⟩
              case measure => simp [intOf]; omega
        · have hje : j = n := by omega
          subst hje
          have hAw := HA.out.below HBW.out
          have h1 := has_any hAw hn64 (j : Int) 0
          have h2 := has_any hAw hn64 (-1) 0
          have h3 := has_any hAw hn64 0 (m : Int)
          have h4 := has_any hAw hn64 0 (-1)
          rw [show ansB j m Y (j : Int) 0 = false by unfold ansB; rw [inn_self]; rfl] at h1
          rw [show ansB j m Y (-1) 0 = false by unfold ansB; rw [inn_neg]; rfl] at h2
          rw [show ansB j m Y 0 (m : Int) = false by unfold ansB; rw [inn_self]; simp] at h3
          rw [show ansB j m Y 0 (-1) = false by unfold ansB; rw [inn_neg]; simp] at h4
          have H1 := Lib.hid h1
          have H2 := Lib.hid h2
          have H3 := Lib.hid h3
          have H4 := Lib.hid h4
          clear hAw h1 h2 h3 h4
          go_wp2_with fail
          refine H1.out.mono ?_
          rintro x w2 ⟨rfl, rfl⟩
          go_wp2_with fail
          refine H2.out.mono ?_
          rintro x w2 ⟨rfl, rfl⟩
          go_wp2_with fail
          refine H3.out.mono ?_
          rintro x w2 ⟨rfl, rfl⟩
          go_wp2_with fail
          refine H4.out.mono ?_
          rintro x w2 ⟨rfl, rfl⟩
          go_wp2
          go_ret
          exact ⟨rfl, HB.out.trans (HBW.out.mono (Nat.le_of_lt hHV))⟩
end Fl
end Go.Proofs.YtbeepedobnaojaaDoor
