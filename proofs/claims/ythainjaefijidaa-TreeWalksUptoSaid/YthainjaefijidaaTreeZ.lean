/- The walks of layer 3's walkList and WalkAll. -/
import Derived.Test.YthainjaefijidaaTreeY
namespace Go.Proofs.Ythainjaefijidaa
open Go.RowKit Go.Deep
namespace Tr
theorem TyAt.shape {w : World} : ∀ {n : Nat} {x : Ty} {cs : List Value}, TyAt w n x cs → ∃ (a0 : Int) (a1 a2 : ByteArray) (a3 : Bool) (A4 : Option Addr) (l4 c4 : Nat) (A5 : Option Addr) (l5 c5 : Nat) (a6 a7 : Int),
    cs = [.int .i64 a0, .string a1, .string a2, .bool a3, .slice A4 l4 c4, .slice A5 l5 c5, .int .i64 a6, .int .i64 a7]
  | 0, _, _, h => h.elim
  | n + 1, .mk _ _ _ _ _ _ _ _, cs, h => by
    obtain ⟨An, cn, A, ca, e, _⟩ := h
    exact ⟨_, _, _, _, _, _, _, _, _, _, _, _, e⟩
theorem ExAt.shape {w : World} : ∀ {n : Nat} {x : Ex} {cs : List Value}, ExAt w n x cs → ∃ (a0 : Int) (a1 : ByteArray) (a2 : Int) (a3 : Bool) (A4 : Option Addr) (l4 c4 : Nat) (A5 : Option Addr) (l5 c5 : Nat) (A6 : Option Addr) (l6 c6 : Nat) (a7 a8 : Int),
    cs = [.int .i64 a0, .string a1, .int .u64 a2, .bool a3, .slice A4 l4 c4, .slice A5 l5 c5, .slice A6 l6 c6, .int .i64 a7, .int .i64 a8]
  | 0, _, _, h => h.elim
  | n + 1, .mk _ _ _ _ _ _ _ _ _, cs, h => by
    obtain ⟨A, ca, An, cn, B, cb, e, _⟩ := h
    exact ⟨_, _, _, _, _, _, _, _, _, _, _, _, _, _, _, e⟩
set_option maxHeartbeats 4000000 in
theorem walk1L_step (n : Nat) (IHE : Hid (Walk1E n)) : Walk1L n := by
  intro l A ca w0 W c B v L h hb hc hA hbig
  have hlm := h.le
  unfold maxLen at hlm
  obtain ⟨la, hla⟩ : ∃ n, l.length = n := ⟨_, rfl⟩
  have HLA := Lib.hid hla
  have HL := Lib.hid h
  have HA := Lib.hid hA
  have HB := Lib.hid hb
  have HC := Lib.hid hc
  have BIG := Lib.hid hbig
  rw [hla] at hlm
  rw [hla]
  clear h hA hb hc hbig hla
  go_enter Try.func16, Try.ntmps16
  go_wp2
  go_loopw [8] (fun i wr => ∃ (k : Nat) (v1 : Value), k ≤ la ∧ i = .int .i64 k ∧ Hid (Wk c B W v wr v1 (L ++ seenL (l.take k)))) (fun i _ => la - (intOf i).toNat)
  case atStart =>
    refine ⟨0, v, Nat.zero_le _, rfl, ?_⟩
    show Wk _ _ _ _ _ _ _
    rw [List.take_zero, show seenL [] = [] from rfl, List.append_nil]
    exact Wk.refl HA.out
  case round =>
    obtain ⟨k, v1, hk, rfl, HK⟩ := hrel
    by_cases hkl : k < la
    · have hkl' : k < l.length := by rw [HLA.out]; exact hkl
      obtain ⟨bk, o, cs2, rfl, hbk, hl2, hs2, hc2⟩ := HL.out.get (by decide) hkl'
      have hst := seenL_take l hkl'
      have hbw := HK.out.below HA.out HB.out HC.out
      obtain ⟨a0, a1, a2, a3, A4, l4, c4, A5, l5, c5, A6, l6, c6, a7, a8, rfl⟩ := hs2.shape
      · have hx := fun (j : Nat) (u : Value) (hu : ([.int .i64 a0, .string a1, .int .u64 a2, .bool a3, .slice A4 l4 c4, .slice A5 l5 c5, .slice A6 l6 c6, .int .i64 a7, .int .i64 a8] : List Value)[j]? = some u) => (hbw.cell (p := ⟨bk, o + k * 9 + j, none⟩) hbk).trans (hc2 j u hu)
        have x0 := hx 0 _ rfl
        rw [Nat.add_zero] at x0
        have x1 := hx 1 _ rfl
        have x2 := hx 2 _ rfl
        have x3 := hx 3 _ rfl
        have x4 := hx 4 _ rfl
        have x5 := hx 5 _ rfl
        have x6 := hx 6 _ rfl
        have x7 := hx 7 _ rfl
        have x8 := hx 8 _ rfl
        have hlen : (L ++ seenL (l.take k)).length + (seen (l[k]'hkl')).length ≤ 2000000 := by
          have h1 := seenL_le l (k + 1)
          rw [hst, List.length_append] at h1
          have h2 := BIG.out
          rw [List.length_append]
          omega
        have hS := IHE.out _ _ w0 (wr.alloc (.cells #[.int .i64 a0, .string a1, .int .u64 a2, .bool a3, .slice A4 l4 c4, .slice A5 l5 c5, .slice A6 l6 c6, .int .i64 a7, .int .i64 a8] 29)) c B v1 _ hs2 (hbw.alloc hbw.size _) HC.out (HK.out.acc.alloc _) hlen
        rw [List.append_assoc, ← hst] at hS
        have HS := Lib.hid hS
        clear hx hc2 hs2 hst hbw hlen hS
        go_wp2_with fail
        refine HS.out.mono ?_
        rintro e W2 ⟨rfl, v2, k2⟩
        have HK2 := Lib.hid (HK.out.trans k2.ofAlloc)
        clear k2
        go_wp2
        go_roundw
        case rel => exact ⟨k + 1, v2, by omega, by go_num, HK2⟩
        case measure => simp [intOf]; omega
    · have hke : k = la := by omega
      have h1 := HK.out
      rw [show l.take k = l from List.take_of_length_le (by rw [HLA.out]; omega)] at h1
      have HF := Lib.hid h1
      clear h1
      go_wp2
      go_end0
      exact ⟨rfl, v1, HF.out⟩
set_option maxHeartbeats 8000000 in
set_option maxRecDepth 100000 in
theorem walk1B_step (n : Nat) (IH : Hid (n = 0 ∨ ∃ k, n = k + 1 ∧ Walk1L k ∧ Walk1B k)) : Walk1B n := by
  intro l A ca w0 W c B v L h hb hc hA hbig
  have hlm := h.le
  unfold maxLen at hlm
  obtain ⟨la, hla⟩ : ∃ n, l.length = n := ⟨_, rfl⟩
  have HLA := Lib.hid hla
  have HL := Lib.hid h
  have HA := Lib.hid hA
  have HB := Lib.hid hb
  have HC := Lib.hid hc
  have BIG := Lib.hid hbig
  rw [hla] at hlm
  rw [hla]
  clear h hA hb hc hbig hla
  go_enter Try.func9, Try.ntmps9
  go_wp2
  go_loopw [8] (fun i wr => ∃ (k : Nat) (v1 : Value), k ≤ la ∧ i = .int .i64 k ∧ Hid (Wk c B W v wr v1 (L ++ seenB (l.take k)))) (fun i _ => la - (intOf i).toNat)
  case atStart =>
    refine ⟨0, v, Nat.zero_le _, rfl, ?_⟩
    show Wk _ _ _ _ _ _ _
    rw [List.take_zero, show seenB [] = [] from rfl, List.append_nil]
    exact Wk.refl HA.out
  case round =>
    obtain ⟨q, v1, hq, rfl, HK⟩ := hrel
    by_cases hql : q < la
    · have hql' : q < l.length := by rw [HLA.out]; exact hql
      obtain ⟨bk, o, cs2, rfl, hbk, hl2, hs2, hc2⟩ := HL.out.get (by decide) hql'
      have hst := seenB_take l hql'
      have hbw := HK.out.below HA.out HB.out HC.out
      rcases IH.out with rfl | ⟨k, rfl, IHL, IHB⟩
      · exact hs2.elim
      · obtain ⟨⟨k0, nm, ty, p, ee, b, el, ot, ln, cl⟩, hse⟩ : ∃ s, l[q]'hql' = s := ⟨_, rfl⟩
        rw [hse] at hs2 hst
        obtain ⟨ts, P, cp, E, ce, Bb, cb, Le, cL, rfl, t0, t1, t2, t3, t4⟩ := hs2
        obtain ⟨a0, a1, a2, a3, A4, l4, c4, A5, l5, c5, a6, a7, rfl⟩ := t0.shape
        obtain ⟨lp, hlp⟩ : ∃ n, p.length = n := ⟨_, rfl⟩
        obtain ⟨le, hle⟩ : ∃ n, ee.length = n := ⟨_, rfl⟩
        obtain ⟨lb, hlb⟩ : ∃ n, b.length = n := ⟨_, rfl⟩
        obtain ⟨lel, hlel⟩ : ∃ n, el.length = n := ⟨_, rfl⟩
        rw [hlp, hle, hlb, hlel] at hc2
        have hx := fun (j : Nat) (u : Value) (hu : ([.int .i64 k0, .string nm] ++ [.int .i64 a0, .string a1, .string a2, .bool a3, .slice A4 l4 c4, .slice A5 l5 c5, .int .i64 a6, .int .i64 a7] ++ [.slice P lp cp, .slice E le ce, .slice Bb lb cb, .slice Le lel cL, .bool ot, .int .i64 ln, .int .i64 cl] : List Value)[j]? = some u) => (hbw.cell (p := ⟨bk, o + q * 17 + j, none⟩) hbk).trans (hc2 j u hu)
        have x0 := hx 0 _ rfl
        rw [Nat.add_zero] at x0
        have x1 := hx 1 _ rfl
        have x2 := hx 2 _ rfl
        have x3 := hx 3 _ rfl
        have x4 := hx 4 _ rfl
        have x5 := hx 5 _ rfl
        have x6 := hx 6 _ rfl
        have x7 := hx 7 _ rfl
        have x8 := hx 8 _ rfl
        have x9 := hx 9 _ rfl
        have x10 := hx 10 _ rfl
        have x11 := hx 11 _ rfl
        have x12 := hx 12 _ rfl
        have x13 := hx 13 _ rfl
        have x14 := hx 14 _ rfl
        have x15 := hx 15 _ rfl
        have x16 := hx 16 _ rfl
        have hss : seenS (.mk k0 nm ty p ee b el ot ln cl) = seenL p ++ seenL ee ++ seenB b ++ seenB el := rfl
        rw [hss] at hst
        obtain ⟨S0, hS0⟩ : ∃ s, L ++ seenB (l.take q) = s := ⟨_, rfl⟩
        have hbg : S0.length + (seenL p).length + (seenL ee).length + (seenB b).length + (seenB el).length ≤ 2000000 := by
          have h1 := seenB_le l (q + 1)
          rw [hst] at h1
          simp only [List.length_append] at h1
          have h2 := BIG.out
          rw [← hS0, List.length_append]
          omega
        have HST : Hid (L ++ seenB (l.take (q + 1)) = S0 ++ seenL p ++ seenL ee ++ seenB b ++ seenB el) := by
          show _ = _
          rw [hst, ← hS0]
          simp only [List.append_assoc]
        rw [hS0] at HK
        have BG := Lib.hid hbg
        have hal := hbw.alloc hbw.size (.cells #[.int .i64 k0, .string nm, .int .i64 a0, .string a1, .string a2, .bool a3, .slice A4 l4 c4, .slice A5 l5 c5, .int .i64 a6, .int .i64 a7, .slice P lp cp, .slice E le ce, .slice Bb lb cb, .slice Le lel cL, .bool ot, .int .i64 ln, .int .i64 cl] 46)
        have HAL := Lib.hid hal
        have HAC := Lib.hid (HK.out.acc.alloc (.cells #[.int .i64 k0, .string nm, .int .i64 a0, .string a1, .string a2, .bool a3, .slice A4 l4 c4, .slice A5 l5 c5, .int .i64 a6, .int .i64 a7, .slice P lp cp, .slice E le ce, .slice Bb lb cb, .slice Le lel cL, .bool ot, .int .i64 ln, .int .i64 cl] 46))
        have HI := Lib.hid (Is.made wr 46 #[.int .i64 k0, .string nm, .int .i64 a0, .string a1, .string a2, .bool a3, .slice A4 l4 c4, .slice A5 l5 c5, .int .i64 a6, .int .i64 a7, .slice P lp cp, .slice E le ce, .slice Bb lb cb, .slice Le lel cL, .bool ot, .int .i64 ln, .int .i64 cl])
        have HP : Hid (∀ W1 u1, Acc W1 c B u1 S0 → Below w0.heap.size w0 W1 → Calls Try.prog 16 #[.slice P lp cp, (.func (.func 8) #[] #[.pointer (some ⟨c, 0, none⟩)])] W1 fun e W' => e = .returned (.tuple #[]) ∧ ∃ v', Wk c B W1 u1 W' v' (S0 ++ seenL p)) := fun W1 u1 g1 g2 => by
          have := IHL p P cp w0 W1 c B u1 S0 t1 g2 HC.out g1 (by have := BG.out; omega)
          rw [hlp] at this
          exact this
        have HE : Hid (∀ W1 u1, Acc W1 c B u1 (S0 ++ seenL p) → Below w0.heap.size w0 W1 → Calls Try.prog 16 #[.slice E le ce, (.func (.func 8) #[] #[.pointer (some ⟨c, 0, none⟩)])] W1 fun e W' => e = .returned (.tuple #[]) ∧ ∃ v', Wk c B W1 u1 W' v' (S0 ++ seenL p ++ seenL ee)) := fun W1 u1 g1 g2 => by
          have := IHL ee E ce w0 W1 c B u1 (S0 ++ seenL p) t2 g2 HC.out g1 (by have := BG.out; simp only [List.length_append]; omega)
          rw [hle] at this
          exact this
        have HBo : Hid (∀ W1 u1, Acc W1 c B u1 (S0 ++ seenL p ++ seenL ee) → Below w0.heap.size w0 W1 → Calls Try.prog 9 #[.slice Bb lb cb, (.func (.func 8) #[] #[.pointer (some ⟨c, 0, none⟩)])] W1 fun e W' => e = .returned (.tuple #[]) ∧ ∃ v', Wk c B W1 u1 W' v' (S0 ++ seenL p ++ seenL ee ++ seenB b)) := fun W1 u1 g1 g2 => by
          have := IHB b Bb cb w0 W1 c B u1 (S0 ++ seenL p ++ seenL ee) t3 g2 HC.out g1 (by have := BG.out; simp only [List.length_append]; omega)
          rw [hlb] at this
          exact this
        have HEl : Hid (∀ W1 u1, Acc W1 c B u1 (S0 ++ seenL p ++ seenL ee ++ seenB b) → Below w0.heap.size w0 W1 → Calls Try.prog 9 #[.slice Le lel cL, (.func (.func 8) #[] #[.pointer (some ⟨c, 0, none⟩)])] W1 fun e W' => e = .returned (.tuple #[]) ∧ ∃ v', Wk c B W1 u1 W' v' (S0 ++ seenL p ++ seenL ee ++ seenB b ++ seenB el)) := fun W1 u1 g1 g2 => by
          have := IHB el Le cL w0 W1 c B u1 (S0 ++ seenL p ++ seenL ee ++ seenB b) t4 g2 HC.out g1 (by have := BG.out; simp only [List.length_append]; omega)
          rw [hlel] at this
          exact this
        have hcw : c < wr.heap.size := HK.out.acc.cell.lt
        have HNE : Hid (v1.ownBlock ≠ some wr.heap.size) := fun e => by have := (HK.out.acc.own.lt _ e).2; omega
        clear hx hc2 t0 t1 t2 t3 t4 hst hbw hss hS0 hbg hal hlp hle hlb hlel hse hl2
        go_wp2_with fail
        refine (HP.out _ v1 HAC.out HAL.out).mono ?_
        rintro e W2 ⟨rfl, v2, k2⟩
        have I2 := k2.is HI.out (by omega) HNE.out
        have z11 := I2.at_ 11
        simp only [List.getElem?_toArray, List.getElem?_cons_zero, List.getElem?_cons_succ] at z11
        have I2 := Lib.hid I2
        have N2 := Lib.hid (k2.rowne (b := wr.heap.size) (by simp) HNE.out)
        have B2 := Lib.hid (k2.below HAC.out HAL.out HC.out)
        have K2 := Lib.hid k2
        clear k2 x0 x1 x2 x3 x4 x5 x6 x7 x8 x9 x10 x11 x12 x13 x14 x15 x16
        go_wp2_with fail
        refine (HE.out _ v2 K2.out.acc B2.out).mono ?_
        rintro e W3 ⟨rfl, v3, k3⟩
        have I3 := k3.is I2.out (by omega) N2.out
        have z12 := I3.at_ 12
        simp only [List.getElem?_toArray, List.getElem?_cons_zero, List.getElem?_cons_succ] at z12
        have I3 := Lib.hid I3
        have N3 := Lib.hid (k3.rowne (b := wr.heap.size) I2.out.lt N2.out)
        have B3 := Lib.hid (k3.below K2.out.acc B2.out HC.out)
        have K3 := Lib.hid k3
        clear k3 z11
        go_wp2_with fail
        refine (HBo.out _ v3 K3.out.acc B3.out).mono ?_
        rintro e W4 ⟨rfl, v4, k4⟩
        have I4 := k4.is I3.out (by omega) N3.out
        have z13 := I4.at_ 13
        simp only [List.getElem?_toArray, List.getElem?_cons_zero, List.getElem?_cons_succ] at z13
        have B4 := Lib.hid (k4.below K3.out.acc B3.out HC.out)
        have K4 := Lib.hid k4
        clear k4 z12 I4
        go_wp2_with fail
        refine (HEl.out _ v4 K4.out.acc B4.out).mono ?_
        rintro e W5 ⟨rfl, v5, k5⟩
        have K5 := Lib.hid k5
        clear k5 z13
        have HF : Hid (Wk c B W v W5 v5 (L ++ seenB (l.take (q + 1)))) := by
          show Wk _ _ _ _ _ _ _
          rw [HST.out]
          exact HK.out.trans ((((K2.out.trans K3.out).trans K4.out).trans K5.out).ofAlloc)
        go_wp2
        go_roundw
        case rel => exact ⟨q + 1, v5, by omega, by go_num, HF⟩
        case measure => simp [intOf]; omega
    · have hke : q = la := by omega
      have h1 := HK.out
      rw [show l.take q = l from List.take_of_length_le (by rw [HLA.out]; omega)] at h1
      have HF := Lib.hid h1
      clear h1
      go_wp2
      go_end0
      exact ⟨rfl, v1, HF.out⟩
theorem walk1_tree : ∀ n, Walk1E n ∧ Walk1L n ∧ Walk1B n
  | 0 => ⟨fun _ _ _ _ _ _ _ _ h => h.elim, walk1L_step 0 (fun _ _ _ _ _ _ _ _ h => h.elim), walk1B_step 0 (.inl rfl)⟩
  | n + 1 => by
    obtain ⟨h1, h2, h3⟩ := walk1_tree n
    have h4 := walk1E_step n h2 h3
    exact ⟨h4, walk1L_step (n + 1) h4, walk1B_step (n + 1) (.inr ⟨n, rfl, h2, h3⟩)⟩
set_option maxHeartbeats 4000000 in
theorem walk2L_step (n : Nat) (IHE : Hid (Walk2E n)) : Walk2L n := by
  intro l A ca w0 W c B v L h hb hc hA hbig
  have hlm := h.le
  unfold maxLen at hlm
  obtain ⟨la, hla⟩ : ∃ n, l.length = n := ⟨_, rfl⟩
  have HLA := Lib.hid hla
  have HL := Lib.hid h
  have HA := Lib.hid hA
  have HB := Lib.hid hb
  have HC := Lib.hid hc
  have BIG := Lib.hid hbig
  rw [hla] at hlm
  rw [hla]
  clear h hA hb hc hbig hla
  go_enter Try.func16, Try.ntmps16
  go_wp2
  go_loopw [8] (fun i wr => ∃ (k : Nat) (v1 : Value), k ≤ la ∧ i = .int .i64 k ∧ Hid (Wk c B W v wr v1 (L ++ seenL (l.take k)))) (fun i _ => la - (intOf i).toNat)
  case atStart =>
    refine ⟨0, v, Nat.zero_le _, rfl, ?_⟩
    show Wk _ _ _ _ _ _ _
    rw [List.take_zero, show seenL [] = [] from rfl, List.append_nil]
    exact Wk.refl HA.out
  case round =>
    obtain ⟨k, v1, hk, rfl, HK⟩ := hrel
    by_cases hkl : k < la
    · have hkl' : k < l.length := by rw [HLA.out]; exact hkl
      obtain ⟨bk, o, cs2, rfl, hbk, hl2, hs2, hc2⟩ := HL.out.get (by decide) hkl'
      have hst := seenL_take l hkl'
      have hbw := HK.out.below HA.out HB.out HC.out
      obtain ⟨a0, a1, a2, a3, A4, l4, c4, A5, l5, c5, A6, l6, c6, a7, a8, rfl⟩ := hs2.shape
      · have hx := fun (j : Nat) (u : Value) (hu : ([.int .i64 a0, .string a1, .int .u64 a2, .bool a3, .slice A4 l4 c4, .slice A5 l5 c5, .slice A6 l6 c6, .int .i64 a7, .int .i64 a8] : List Value)[j]? = some u) => (hbw.cell (p := ⟨bk, o + k * 9 + j, none⟩) hbk).trans (hc2 j u hu)
        have x0 := hx 0 _ rfl
        rw [Nat.add_zero] at x0
        have x1 := hx 1 _ rfl
        have x2 := hx 2 _ rfl
        have x3 := hx 3 _ rfl
        have x4 := hx 4 _ rfl
        have x5 := hx 5 _ rfl
        have x6 := hx 6 _ rfl
        have x7 := hx 7 _ rfl
        have x8 := hx 8 _ rfl
        have hlen : (L ++ seenL (l.take k)).length + (seen (l[k]'hkl')).length ≤ 2000000 := by
          have h1 := seenL_le l (k + 1)
          rw [hst, List.length_append] at h1
          have h2 := BIG.out
          rw [List.length_append]
          omega
        have hS := IHE.out _ _ w0 (wr.alloc (.cells #[.int .i64 a0, .string a1, .int .u64 a2, .bool a3, .slice A4 l4 c4, .slice A5 l5 c5, .slice A6 l6 c6, .int .i64 a7, .int .i64 a8] 29)) c B v1 _ hs2 (hbw.alloc hbw.size _) HC.out (HK.out.acc.alloc _) hlen
        rw [List.append_assoc, ← hst] at hS
        have HS := Lib.hid hS
        clear hx hc2 hs2 hst hbw hlen hS
        go_wp2_with fail
        refine HS.out.mono ?_
        rintro e W2 ⟨rfl, v2, k2⟩
        have HK2 := Lib.hid (HK.out.trans k2.ofAlloc)
        clear k2
        go_wp2
        go_roundw
        case rel => exact ⟨k + 1, v2, by omega, by go_num, HK2⟩
        case measure => simp [intOf]; omega
    · have hke : k = la := by omega
      have h1 := HK.out
      rw [show l.take k = l from List.take_of_length_le (by rw [HLA.out]; omega)] at h1
      have HF := Lib.hid h1
      clear h1
      go_wp2
      go_end0
      exact ⟨rfl, v1, HF.out⟩
set_option maxHeartbeats 8000000 in
set_option maxRecDepth 100000 in
theorem walk2B_step (n : Nat) (IH : Hid (n = 0 ∨ ∃ k, n = k + 1 ∧ Walk2L k ∧ Walk2B k)) : Walk2B n := by
  intro l A ca w0 W c B v L h hb hc hA hbig
  have hlm := h.le
  unfold maxLen at hlm
  obtain ⟨la, hla⟩ : ∃ n, l.length = n := ⟨_, rfl⟩
  have HLA := Lib.hid hla
  have HL := Lib.hid h
  have HA := Lib.hid hA
  have HB := Lib.hid hb
  have HC := Lib.hid hc
  have BIG := Lib.hid hbig
  rw [hla] at hlm
  rw [hla]
  clear h hA hb hc hbig hla
  go_enter Try.func9, Try.ntmps9
  go_wp2
  go_loopw [8] (fun i wr => ∃ (k : Nat) (v1 : Value), k ≤ la ∧ i = .int .i64 k ∧ Hid (Wk c B W v wr v1 (L ++ seenB (l.take k)))) (fun i _ => la - (intOf i).toNat)
  case atStart =>
    refine ⟨0, v, Nat.zero_le _, rfl, ?_⟩
    show Wk _ _ _ _ _ _ _
    rw [List.take_zero, show seenB [] = [] from rfl, List.append_nil]
    exact Wk.refl HA.out
  case round =>
    obtain ⟨q, v1, hq, rfl, HK⟩ := hrel
    by_cases hql : q < la
    · have hql' : q < l.length := by rw [HLA.out]; exact hql
      obtain ⟨bk, o, cs2, rfl, hbk, hl2, hs2, hc2⟩ := HL.out.get (by decide) hql'
      have hst := seenB_take l hql'
      have hbw := HK.out.below HA.out HB.out HC.out
      rcases IH.out with rfl | ⟨k, rfl, IHL, IHB⟩
      · exact hs2.elim
      · obtain ⟨⟨k0, nm, ty, p, ee, b, el, ot, ln, cl⟩, hse⟩ : ∃ s, l[q]'hql' = s := ⟨_, rfl⟩
        rw [hse] at hs2 hst
        obtain ⟨ts, P, cp, E, ce, Bb, cb, Le, cL, rfl, t0, t1, t2, t3, t4⟩ := hs2
        obtain ⟨a0, a1, a2, a3, A4, l4, c4, A5, l5, c5, a6, a7, rfl⟩ := t0.shape
        obtain ⟨lp, hlp⟩ : ∃ n, p.length = n := ⟨_, rfl⟩
        obtain ⟨le, hle⟩ : ∃ n, ee.length = n := ⟨_, rfl⟩
        obtain ⟨lb, hlb⟩ : ∃ n, b.length = n := ⟨_, rfl⟩
        obtain ⟨lel, hlel⟩ : ∃ n, el.length = n := ⟨_, rfl⟩
        rw [hlp, hle, hlb, hlel] at hc2
        have hx := fun (j : Nat) (u : Value) (hu : ([.int .i64 k0, .string nm] ++ [.int .i64 a0, .string a1, .string a2, .bool a3, .slice A4 l4 c4, .slice A5 l5 c5, .int .i64 a6, .int .i64 a7] ++ [.slice P lp cp, .slice E le ce, .slice Bb lb cb, .slice Le lel cL, .bool ot, .int .i64 ln, .int .i64 cl] : List Value)[j]? = some u) => (hbw.cell (p := ⟨bk, o + q * 17 + j, none⟩) hbk).trans (hc2 j u hu)
        have x0 := hx 0 _ rfl
        rw [Nat.add_zero] at x0
        have x1 := hx 1 _ rfl
        have x2 := hx 2 _ rfl
        have x3 := hx 3 _ rfl
        have x4 := hx 4 _ rfl
        have x5 := hx 5 _ rfl
        have x6 := hx 6 _ rfl
        have x7 := hx 7 _ rfl
        have x8 := hx 8 _ rfl
        have x9 := hx 9 _ rfl
        have x10 := hx 10 _ rfl
        have x11 := hx 11 _ rfl
        have x12 := hx 12 _ rfl
        have x13 := hx 13 _ rfl
        have x14 := hx 14 _ rfl
        have x15 := hx 15 _ rfl
        have x16 := hx 16 _ rfl
        have hss : seenS (.mk k0 nm ty p ee b el ot ln cl) = seenL p ++ seenL ee ++ seenB b ++ seenB el := rfl
        rw [hss] at hst
        obtain ⟨S0, hS0⟩ : ∃ s, L ++ seenB (l.take q) = s := ⟨_, rfl⟩
        have hbg : S0.length + (seenL p).length + (seenL ee).length + (seenB b).length + (seenB el).length ≤ 2000000 := by
          have h1 := seenB_le l (q + 1)
          rw [hst] at h1
          simp only [List.length_append] at h1
          have h2 := BIG.out
          rw [← hS0, List.length_append]
          omega
        have HST : Hid (L ++ seenB (l.take (q + 1)) = S0 ++ seenL p ++ seenL ee ++ seenB b ++ seenB el) := by
          show _ = _
          rw [hst, ← hS0]
          simp only [List.append_assoc]
        rw [hS0] at HK
        have BG := Lib.hid hbg
        have hal := hbw.alloc hbw.size (.cells #[.int .i64 k0, .string nm, .int .i64 a0, .string a1, .string a2, .bool a3, .slice A4 l4 c4, .slice A5 l5 c5, .int .i64 a6, .int .i64 a7, .slice P lp cp, .slice E le ce, .slice Bb lb cb, .slice Le lel cL, .bool ot, .int .i64 ln, .int .i64 cl] 46)
        have HAL := Lib.hid hal
        have HAC := Lib.hid (HK.out.acc.alloc (.cells #[.int .i64 k0, .string nm, .int .i64 a0, .string a1, .string a2, .bool a3, .slice A4 l4 c4, .slice A5 l5 c5, .int .i64 a6, .int .i64 a7, .slice P lp cp, .slice E le ce, .slice Bb lb cb, .slice Le lel cL, .bool ot, .int .i64 ln, .int .i64 cl] 46))
        have HI := Lib.hid (Is.made wr 46 #[.int .i64 k0, .string nm, .int .i64 a0, .string a1, .string a2, .bool a3, .slice A4 l4 c4, .slice A5 l5 c5, .int .i64 a6, .int .i64 a7, .slice P lp cp, .slice E le ce, .slice Bb lb cb, .slice Le lel cL, .bool ot, .int .i64 ln, .int .i64 cl])
        have HP : Hid (∀ W1 u1, Acc W1 c B u1 S0 → Below w0.heap.size w0 W1 → Calls Try.prog 16 #[.slice P lp cp, (.func (.func 10) #[] #[.pointer (some ⟨c, 0, none⟩)])] W1 fun e W' => e = .returned (.tuple #[]) ∧ ∃ v', Wk c B W1 u1 W' v' (S0 ++ seenL p)) := fun W1 u1 g1 g2 => by
          have := IHL p P cp w0 W1 c B u1 S0 t1 g2 HC.out g1 (by have := BG.out; omega)
          rw [hlp] at this
          exact this
        have HE : Hid (∀ W1 u1, Acc W1 c B u1 (S0 ++ seenL p) → Below w0.heap.size w0 W1 → Calls Try.prog 16 #[.slice E le ce, (.func (.func 10) #[] #[.pointer (some ⟨c, 0, none⟩)])] W1 fun e W' => e = .returned (.tuple #[]) ∧ ∃ v', Wk c B W1 u1 W' v' (S0 ++ seenL p ++ seenL ee)) := fun W1 u1 g1 g2 => by
          have := IHL ee E ce w0 W1 c B u1 (S0 ++ seenL p) t2 g2 HC.out g1 (by have := BG.out; simp only [List.length_append]; omega)
          rw [hle] at this
          exact this
        have HBo : Hid (∀ W1 u1, Acc W1 c B u1 (S0 ++ seenL p ++ seenL ee) → Below w0.heap.size w0 W1 → Calls Try.prog 9 #[.slice Bb lb cb, (.func (.func 10) #[] #[.pointer (some ⟨c, 0, none⟩)])] W1 fun e W' => e = .returned (.tuple #[]) ∧ ∃ v', Wk c B W1 u1 W' v' (S0 ++ seenL p ++ seenL ee ++ seenB b)) := fun W1 u1 g1 g2 => by
          have := IHB b Bb cb w0 W1 c B u1 (S0 ++ seenL p ++ seenL ee) t3 g2 HC.out g1 (by have := BG.out; simp only [List.length_append]; omega)
          rw [hlb] at this
          exact this
        have HEl : Hid (∀ W1 u1, Acc W1 c B u1 (S0 ++ seenL p ++ seenL ee ++ seenB b) → Below w0.heap.size w0 W1 → Calls Try.prog 9 #[.slice Le lel cL, (.func (.func 10) #[] #[.pointer (some ⟨c, 0, none⟩)])] W1 fun e W' => e = .returned (.tuple #[]) ∧ ∃ v', Wk c B W1 u1 W' v' (S0 ++ seenL p ++ seenL ee ++ seenB b ++ seenB el)) := fun W1 u1 g1 g2 => by
          have := IHB el Le cL w0 W1 c B u1 (S0 ++ seenL p ++ seenL ee ++ seenB b) t4 g2 HC.out g1 (by have := BG.out; simp only [List.length_append]; omega)
          rw [hlel] at this
          exact this
        have hcw : c < wr.heap.size := HK.out.acc.cell.lt
        have HNE : Hid (v1.ownBlock ≠ some wr.heap.size) := fun e => by have := (HK.out.acc.own.lt _ e).2; omega
        clear hx hc2 t0 t1 t2 t3 t4 hst hbw hss hS0 hbg hal hlp hle hlb hlel hse hl2
        go_wp2_with fail
        refine (HP.out _ v1 HAC.out HAL.out).mono ?_
        rintro e W2 ⟨rfl, v2, k2⟩
        have I2 := k2.is HI.out (by omega) HNE.out
        have z11 := I2.at_ 11
        simp only [List.getElem?_toArray, List.getElem?_cons_zero, List.getElem?_cons_succ] at z11
        have I2 := Lib.hid I2
        have N2 := Lib.hid (k2.rowne (b := wr.heap.size) (by simp) HNE.out)
        have B2 := Lib.hid (k2.below HAC.out HAL.out HC.out)
        have K2 := Lib.hid k2
        clear k2 x0 x1 x2 x3 x4 x5 x6 x7 x8 x9 x10 x11 x12 x13 x14 x15 x16
        go_wp2_with fail
        refine (HE.out _ v2 K2.out.acc B2.out).mono ?_
        rintro e W3 ⟨rfl, v3, k3⟩
        have I3 := k3.is I2.out (by omega) N2.out
        have z12 := I3.at_ 12
        simp only [List.getElem?_toArray, List.getElem?_cons_zero, List.getElem?_cons_succ] at z12
        have I3 := Lib.hid I3
        have N3 := Lib.hid (k3.rowne (b := wr.heap.size) I2.out.lt N2.out)
        have B3 := Lib.hid (k3.below K2.out.acc B2.out HC.out)
        have K3 := Lib.hid k3
        clear k3 z11
        go_wp2_with fail
        refine (HBo.out _ v3 K3.out.acc B3.out).mono ?_
        rintro e W4 ⟨rfl, v4, k4⟩
        have I4 := k4.is I3.out (by omega) N3.out
        have z13 := I4.at_ 13
        simp only [List.getElem?_toArray, List.getElem?_cons_zero, List.getElem?_cons_succ] at z13
        have B4 := Lib.hid (k4.below K3.out.acc B3.out HC.out)
        have K4 := Lib.hid k4
        clear k4 z12 I4
        go_wp2_with fail
        refine (HEl.out _ v4 K4.out.acc B4.out).mono ?_
        rintro e W5 ⟨rfl, v5, k5⟩
        have K5 := Lib.hid k5
        clear k5 z13
        have HF : Hid (Wk c B W v W5 v5 (L ++ seenB (l.take (q + 1)))) := by
          show Wk _ _ _ _ _ _ _
          rw [HST.out]
          exact HK.out.trans ((((K2.out.trans K3.out).trans K4.out).trans K5.out).ofAlloc)
        go_wp2
        go_roundw
        case rel => exact ⟨q + 1, v5, by omega, by go_num, HF⟩
        case measure => simp [intOf]; omega
    · have hke : q = la := by omega
      have h1 := HK.out
      rw [show l.take q = l from List.take_of_length_le (by rw [HLA.out]; omega)] at h1
      have HF := Lib.hid h1
      clear h1
      go_wp2
      go_end0
      exact ⟨rfl, v1, HF.out⟩
theorem walk2_tree : ∀ n, Walk2E n ∧ Walk2L n ∧ Walk2B n
  | 0 => ⟨fun _ _ _ _ _ _ _ _ h => h.elim, walk2L_step 0 (fun _ _ _ _ _ _ _ _ h => h.elim), walk2B_step 0 (.inl rfl)⟩
  | n + 1 => by
    obtain ⟨h1, h2, h3⟩ := walk2_tree n
    have h4 := walk2E_step n h2 h3
    exact ⟨h4, walk2L_step (n + 1) h4, walk2B_step (n + 1) (.inr ⟨n, rfl, h2, h3⟩)⟩
end Tr
end Go.Proofs.Ythainjaefijidaa
