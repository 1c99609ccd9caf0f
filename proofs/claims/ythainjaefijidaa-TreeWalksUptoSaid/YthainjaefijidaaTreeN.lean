/- The walks of layer 3's Walk with no function; numbers that are the same. -/
import Derived.BigQuiet
import Derived.Deep.QuietTactic
import Derived.Test.YthainjaefijidaaTreeZ
namespace Go.Proofs.Ythainjaefijidaa
open Go.RowKit Go.Deep
namespace Tr
theorem none_fn (w : World) : (binOp .eql 35 .nilFunc .nilFunc).run Try.prog w = .ok (.bool true) w := by kernel_rfl
theorem walk_nil (v0 v1 v2 v3 v4 v5 v6 v7 v8 : Value) (W : World) : Calls Try.prog 7 #[.agg #[v0, v1, v2, v3, v4, v5, v6, v7, v8], .nilFunc] W fun e W' => e = .returned (.tuple #[]) ∧ Below W.heap.size W W' := by
  have e1 := none_fn
  go_enter Try.func7, Try.ntmps7
  go_wp2
  refine bodyPost_ret (results_none (by kernel_rfl) _ _ _) rfl ?_
  exact ⟨rfl, (Below.refl _ W).alloc (Nat.le_refl _) _⟩
set_option maxHeartbeats 4000000 in
theorem walkL_nil {n : Nat} {l : List Ex} {A : Option Addr} (ca : Nat) {w0 W : World} (h : ListAt w0 9 (ExAt w0 n) A l) (hb : Below w0.heap.size w0 W) :
    Calls Try.prog 16 #[.slice A l.length ca, .nilFunc] W fun e W' => e = .returned (.tuple #[]) ∧ Below W.heap.size W W' := by
  have hlm := h.le
  unfold maxLen at hlm
  obtain ⟨la, hla⟩ : ∃ n, l.length = n := ⟨_, rfl⟩
  have HLA := Lib.hid hla
  have HL := Lib.hid h
  have HB := Lib.hid hb
  obtain ⟨H, hH⟩ : ∃ x, W.heap.size = x := ⟨_, rfl⟩
  have HH := Lib.hid hH
  rw [hla] at hlm
  rw [hla, hH]
  clear h hb hla hH
  go_enter Try.func16, Try.ntmps16
  go_wp2
  go_loopw [8] (fun i wr => ∃ k : Nat, k ≤ la ∧ i = .int .i64 k ∧ Hid (Below H W wr)) (fun i _ => la - (intOf i).toNat)
  case atStart => exact ⟨0, Nat.zero_le _, rfl, Below.refl _ _⟩
  case round =>
    obtain ⟨k, hk, rfl, HK⟩ := hrel
    by_cases hkl : k < la
    · have hkl' : k < l.length := by rw [HLA.out]; exact hkl
      obtain ⟨bk, o, cs2, rfl, hbk, hl2, hs2, hc2⟩ := HL.out.get (by decide) hkl'
      have hbw : Below w0.heap.size w0 wr := HB.out.trans (HK.out.mono (by have := HB.out.size; rw [HH.out] at this; exact this))
      have hszr : H ≤ wr.heap.size := by have := HK.out.size; have := HH.out; omega
      obtain ⟨a0, a1, a2, a3, A4, l4, c4, A5, l5, c5, A6, l6, c6, a7, a8, rfl⟩ := hs2.shape
      have hx := fun (j : Nat) (u : Value) (hu : ([.int .i64 a0, .string a1, .int .u64 a2, .bool a3, .slice A4 l4 c4, .slice A5 l5 c5, .slice A6 l6 c6, .int .i64 a7, .int .i64 a8] : List Value)[j]? = some u) => (hbw.cell (p := ⟨bk, o + k * 9 + j, none⟩) hbk).trans (hc2 j u hu)
      have x0 := hx 0 _ rfl
      rw [Nat.add_zero] at x0
      have x1 := hx 1 _ rfl
      have x2 := hx 2 _ rfl
      have x3 := hx 3 _ rfl
      have x4 := hx 4 _ rfl
      have x5 := hx 5 _ rfl
      have x6 := hx 6 _ rfl
      have x7 := hx 7 _ rfl
      have x8 := hx 8 _ rfl
      have HAl := Lib.hid (HK.out.alloc hszr (.cells #[.int .i64 a0, .string a1, .int .u64 a2, .bool a3, .slice A4 l4 c4, .slice A5 l5 c5, .slice A6 l6 c6, .int .i64 a7, .int .i64 a8] 29))
      clear hx hc2 hs2 hbw
      go_wp2_with fail
      refine (walk_nil _ _ _ _ _ _ _ _ _ _).mono ?_
      rintro e W2 ⟨rfl, k2⟩
      have HK2 := Lib.hid (HAl.out.trans (k2.mono (Nat.le_trans hszr (by simp))))
      clear k2
      go_wp2
      go_roundw
      case rel => exact ⟨k + 1, by omega, by go_num, HK2⟩
      case measure => simp [intOf]; omega
    · have hke : k = la := by omega
      go_wp2
      go_end0
      exact ⟨rfl, HK.out⟩
def NilB (n : Nat) : Prop := ∀ (l : List St) (A : Option Addr) (ca : Nat) (w0 W : World), ListAt w0 17 (StAt w0 n) A l → Below w0.heap.size w0 W →
    Calls Try.prog 9 #[.slice A l.length ca, .nilFunc] W fun e W' => e = .returned (.tuple #[]) ∧ Below W.heap.size W W'
set_option maxHeartbeats 8000000 in
set_option maxRecDepth 100000 in
theorem nilB_step (n : Nat) (IH : Hid (n = 0 ∨ ∃ k, n = k + 1 ∧ NilB k)) : NilB n := by
  intro l A ca w0 W h hb
  have hlm := h.le
  unfold maxLen at hlm
  obtain ⟨la, hla⟩ : ∃ n, l.length = n := ⟨_, rfl⟩
  have HLA := Lib.hid hla
  have HL := Lib.hid h
  have HB := Lib.hid hb
  obtain ⟨H, hH⟩ : ∃ x, W.heap.size = x := ⟨_, rfl⟩
  have HH := Lib.hid hH
  rw [hla] at hlm
  rw [hla, hH]
  clear h hb hla hH
  go_enter Try.func9, Try.ntmps9
  go_wp2
  go_loopw [8] (fun i wr => ∃ k : Nat, k ≤ la ∧ i = .int .i64 k ∧ Hid (Below H W wr)) (fun i _ => la - (intOf i).toNat)
  case atStart => exact ⟨0, Nat.zero_le _, rfl, Below.refl _ _⟩
  case round =>
    obtain ⟨q, hq, rfl, HK⟩ := hrel
    by_cases hql : q < la
    · have hql' : q < l.length := by rw [HLA.out]; exact hql
      obtain ⟨bk, o, cs2, rfl, hbk, hl2, hs2, hc2⟩ := HL.out.get (by decide) hql'
      have hwH : w0.heap.size ≤ H := by have := HB.out.size; rw [HH.out] at this; exact this
      have hbw : Below w0.heap.size w0 wr := HB.out.trans (HK.out.mono hwH)
      have hszr : H ≤ wr.heap.size := by have := HK.out.size; have := HH.out; omega
      rcases IH.out with rfl | ⟨k, rfl, IHB⟩
      · exact hs2.elim
      · obtain ⟨⟨k0, nm, ty, p, ee, b, el, ot, ln, cl⟩, hse⟩ : ∃ s, l[q]'hql' = s := ⟨_, rfl⟩
        rw [hse] at hs2
        obtain ⟨ts, P, cp, E, ce, Bb, cb, Le, cL, rfl, t0, t1, t2, t3, t4⟩ := hs2
        obtain ⟨a0, a1, a2, a3, A4, l4, c4, A5, l5, c5, a6, a7, rfl⟩ := t0.shape
        obtain ⟨lp, hlp⟩ : ∃ n, p.length = n := ⟨_, rfl⟩
        obtain ⟨le, hle⟩ : ∃ n, ee.length = n := ⟨_, rfl⟩
        obtain ⟨lb, hlb⟩ : ∃ n, b.length = n := ⟨_, rfl⟩
        obtain ⟨lel, hlel⟩ : ∃ n, el.length = n := ⟨_, rfl⟩
        rw [hlp, hle, hlb, hlel] at hc2
        have hx := fun (j : Nat) (u : Value) (hu : ([.int .i64 k0, .string nm] ++ [.int .i64 a0, .string a1, .string a2, .bool a3, .slice A4 l4 c4, .slice A5 l5 c5, .int .i64 a6, .int .i64 a7] ++ [.slice P lp cp, .slice E le ce, .slice Bb lb cb, .slice Le lel cL, .bool ot, .int .i64 ln, .int .i64 cl] : List Value)[j]? = some u) => (hbw.cell (p := ⟨bk, o + q * 17 + j, none⟩) hbk).trans (hc2 j u hu)
        have x0 := hx 0 _ rfl
        rw [Nat.add_zero] at x0
        have x1 := hx 1 _ rfl
        have x2 := hx 2 _ rfl
        have x3 := hx 3 _ rfl
        have x4 := hx 4 _ rfl
        have x5 := hx 5 _ rfl
        have x6 := hx 6 _ rfl
        have x7 := hx 7 _ rfl
        have x8 := hx 8 _ rfl
        have x9 := hx 9 _ rfl
        have x10 := hx 10 _ rfl
        have x11 := hx 11 _ rfl
        have x12 := hx 12 _ rfl
        have x13 := hx 13 _ rfl
        have x14 := hx 14 _ rfl
        have x15 := hx 15 _ rfl
        have x16 := hx 16 _ rfl
        have hb1 := HK.out.alloc hszr (.cells #[.int .i64 k0, .string nm, .int .i64 a0, .string a1, .string a2, .bool a3, .slice A4 l4 c4, .slice A5 l5 c5, .int .i64 a6, .int .i64 a7, .slice P lp cp, .slice E le ce, .slice Bb lb cb, .slice Le lel cL, .bool ot, .int .i64 ln, .int .i64 cl] 46)
        have B1 := Lib.hid hb1
        have I1 := Lib.hid (Is.made wr 46 #[.int .i64 k0, .string nm, .int .i64 a0, .string a1, .string a2, .bool a3, .slice A4 l4 c4, .slice A5 l5 c5, .int .i64 a6, .int .i64 a7, .slice P lp cp, .slice E le ce, .slice Bb lb cb, .slice Le lel cL, .bool ot, .int .i64 ln, .int .i64 cl])
        have HTR : Hid (∀ W1, Below H W W1 → Below w0.heap.size w0 W1) := fun W1 g => HB.out.trans (g.mono hwH)
        have HP : Hid (∀ W1, Below H W W1 → Calls Try.prog 16 #[.slice P lp cp, .nilFunc] W1 fun e W' => e = .returned (.tuple #[]) ∧ Below W1.heap.size W1 W') := fun W1 g => by
          have := walkL_nil cp t1 (HTR.out W1 g)
          rw [hlp] at this
          exact this
        have HE : Hid (∀ W1, Below H W W1 → Calls Try.prog 16 #[.slice E le ce, .nilFunc] W1 fun e W' => e = .returned (.tuple #[]) ∧ Below W1.heap.size W1 W') := fun W1 g => by
          have := walkL_nil ce t2 (HTR.out W1 g)
          rw [hle] at this
          exact this
        have HBo : Hid (∀ W1, Below H W W1 → Calls Try.prog 9 #[.slice Bb lb cb, .nilFunc] W1 fun e W' => e = .returned (.tuple #[]) ∧ Below W1.heap.size W1 W') := fun W1 g => by
          have := IHB b Bb cb w0 W1 t3 (HTR.out W1 g)
          rw [hlb] at this
          exact this
        have HEl : Hid (∀ W1, Below H W W1 → Calls Try.prog 9 #[.slice Le lel cL, .nilFunc] W1 fun e W' => e = .returned (.tuple #[]) ∧ Below W1.heap.size W1 W') := fun W1 g => by
          have := IHB el Le cL w0 W1 t4 (HTR.out W1 g)
          rw [hlel] at this
          exact this
        clear hx hc2 t0 t1 t2 t3 t4 hbw hb1 hlp hle hlb hlel hse hl2
        go_wp2_with fail
        refine (HP.out _ B1.out).mono ?_
        rintro e W2 ⟨rfl, k2⟩
        have I2 := Lib.hid (I1.out.below k2 (by simp))
        have z11 := I2.out.at_ 11
        simp only [List.getElem?_toArray, List.getElem?_cons_zero, List.getElem?_cons_succ] at z11
        have B2 := Lib.hid (B1.out.trans (k2.mono (Nat.le_trans hszr (by simp))))
        have hsz2 : H ≤ W2.heap.size := by have := B2.out.size; have := HH.out; omega
        clear k2 x0 x1 x2 x3 x4 x5 x6 x7 x8 x9 x10 x11 x12 x13 x14 x15 x16
        go_wp2_with fail
        refine (HE.out _ B2.out).mono ?_
        rintro e W3 ⟨rfl, k3⟩
        have I3 := Lib.hid (I2.out.below k3 I2.out.lt)
        have z12 := I3.out.at_ 12
        simp only [List.getElem?_toArray, List.getElem?_cons_zero, List.getElem?_cons_succ] at z12
        have B3 := Lib.hid (B2.out.trans (k3.mono hsz2))
        have hsz3 : H ≤ W3.heap.size := by have := B3.out.size; have := HH.out; omega
        clear k3 z11
        go_wp2_with fail
        refine (HBo.out _ B3.out).mono ?_
        rintro e W4 ⟨rfl, k4⟩
        have I4 := Lib.hid (I3.out.below k4 I3.out.lt)
        have z13 := I4.out.at_ 13
        simp only [List.getElem?_toArray, List.getElem?_cons_zero, List.getElem?_cons_succ] at z13
        have B4 := Lib.hid (B3.out.trans (k4.mono hsz3))
        have hsz4 : H ≤ W4.heap.size := by have := B4.out.size; have := HH.out; omega
        clear k4 z12
        go_wp2_with fail
        refine (HEl.out _ B4.out).mono ?_
        rintro e W5 ⟨rfl, k5⟩
        have B5 := Lib.hid (B4.out.trans (k5.mono hsz4))
        clear k5 z13
        go_wp2
        go_roundw
        case rel => exact ⟨q + 1, by omega, by go_num, B5⟩
        case measure => simp [intOf]; omega
    · have hke : q = la := by omega
      go_wp2
      go_end0
      exact ⟨rfl, HK.out⟩
theorem nilB_any : ∀ n, NilB n
  | 0 => nilB_step 0 (.inl rfl)
  | n + 1 => nilB_step (n + 1) (.inr ⟨n, rfl, nilB_any n⟩)
theorem intsI_at {l : List Int} {i : Nat} (h : i < l.length) : (intsI l)[i]? = some (.int .i64 l[i]) := by
  unfold intsI
  rw [List.getElem?_map, List.getElem?_eq_getElem h]; rfl
theorem ints_same {w : World} (l : List Int) (hn : l.length ≤ 2000000) (A1 A2 : Option Addr) (c1 c2 : Nat) (h1 : RowAt w A1 (intsI l)) (h2 : RowAt w A2 (intsI l)) :
    Calls Try.prog 11 #[.slice A1 l.length c1, .slice A2 l.length c2] w fun e w' => e = .returned (.bool true) ∧ ∃ q, w.drewN q = w' := by
  have H1 := Lib.hid h1
  have H2 := Lib.hid h2
  obtain ⟨n, hln⟩ : ∃ n, l.length = n := ⟨_, rfl⟩
  have HLN := Lib.hid hln
  rw [hln] at hn ⊢
  clear h1 h2 hln
  go_enter Try.func11, Try.ntmps11
  go_wp2
  go_loopw [5] (fun i wr => ∃ k q : Nat, k ≤ n ∧ i = .int .i64 k ∧ wr = w.drewN q) (fun i _ => n - (intOf i).toNat)
  case atStart => exact ⟨0, 0, Nat.zero_le _, rfl, rfl⟩
  case round =>
    obtain ⟨k, q, hk, rfl, rfl⟩ := hrel
    by_cases hlt : k < n
    · obtain ⟨b1, o1, rfl, _, e1⟩ := H1.out (by rw [intsI_length, HLN.out]; omega)
      obtain ⟨b2, o2, rfl, _, e2⟩ := H2.out (by rw [intsI_length, HLN.out]; omega)
      have hkl : k < l.length := by rw [HLN.out]; exact hlt
      have d1 := e1 k _ (intsI_at hkl)
      have d2 := e2 k _ (intsI_at hkl)
      obtain ⟨x, hx⟩ : ∃ x, l[k] = x := ⟨_, rfl⟩
      rw [hx] at d1 d2
      clear hx e1 e2 hkl
      go_wp2_with fail
      go_quiet (fail)
      go_wp2
      go_roundw
      case rel => exact ⟨k + 1, _, by omega, by go_num, rfl⟩
      case measure => simp [intOf]; omega
    · have hkm : k = n := by omega
      subst hkm
      go_wp2
      go_ret
      exact ⟨rfl, q, rfl⟩
end Tr
end Go.Proofs.Ythainjaefijidaa
