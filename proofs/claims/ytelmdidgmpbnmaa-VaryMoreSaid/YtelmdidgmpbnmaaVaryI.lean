/- Layer 8: are two ways of structs the same? -/
import Derived.Test.YtelmdidgmpbnmaaVaryH
namespace Go.Proofs.Ytelmdidgmpbnmaa
open Go.RowKit Go.Deep Tr Mp
namespace Vy
def rowOf (W : Ws) (s : ByteArray) : List Nat := (W s).getD []
/-- Do all structs of the list have the same rows? -/
structure Ask (b : Bool) (l : List Df) (Wa Wb : Ws) : Prop where
  yes : b = true → ∀ d ∈ l, rowOf Wa d.name = rowOf Wb d.name
  no : b = false → ∃ d ∈ l, rowOf Wa d.name ≠ rowOf Wb d.name
theorem ask_any (l : List Df) (Wa Wb : Ws) : ∃ b, Ask b l Wa Wb := by
  by_cases h : ∀ d ∈ l, rowOf Wa d.name = rowOf Wb d.name
  · exact ⟨true, ⟨(fun _ => h), (fun e => by cases e)⟩⟩
  · refine ⟨false, ⟨(fun e => by cases e), (fun _ => ?_)⟩⟩
    apply Classical.byContradiction
    intro hn
    exact h fun d hd => Classical.byContradiction fun hx => hn ⟨d, hd, hx⟩
section
variable {w w0 : World} {oa ob : Option Nat} {Wa Wb : Ws} {ca cb : Nat}
theorem same1_any {s : ByteArray} (hs : s.size ≤ maxLen) (v1 : Int) (T : Option Addr) (lt ct : Nat) (A : Option Addr) (la cA : Nat) (ha : WaysAt w (.map oa) Wa) (hb : WaysAt w (.map ob) Wb) (ia : Is w ca 28 #[.map oa]) (ib : Is w cb 28 #[.map ob]) :
    Calls Try.prog 19 #[.agg #[.string s, .int .i64 v1, .slice T lt ct, .slice A la cA], .pointer (some ⟨ca, 0, none⟩), .pointer (some ⟨cb, 0, none⟩)] w fun e w' =>
      e = .returned (.bool (!decide (rowOf Wa s = rowOf Wb s))) ∧ Below w.heap.size w w' := by
  have b0 : Below w.heap.size w (w.alloc (.cells #[.string s, .int .i64 v1, .slice T lt ct, .slice A la cA] 39)) := (Below.refl _ w).alloc (Nat.le_refl _) _
  obtain ⟨ua, hra, hua⟩ := (ha.below b0).look hs
  obtain ⟨ub, hrb, hub⟩ := (hb.below b0).look hs
  have ca0 := (ia.alloc (.cells #[.string s, .int .i64 v1, .slice T lt ct, .slice A la cA] 39)).at_ 0
  have cb0 := (ib.alloc (.cells #[.string s, .int .i64 v1, .slice T lt ct, .slice A la cA] 39)).at_ 0
  simp only [List.getElem?_toArray, List.getElem?_cons_zero] at ca0 cb0
  have hlt1 := ia.lt
  have hlt2 := ib.lt
  have y0 : w.cell? ⟨ca, 0, none⟩ = some (.map oa) := ia.at_ 0
  have y1 : w.cell? ⟨cb, 0, none⟩ = some (.map ob) := ib.at_ 0
  have HE := Lib.hid (equal_ints hua hub)
  have B0 := Lib.hid b0
  have HD : Hid (decide (ints ((Wa s).getD []) = ints ((Wb s).getD [])) = decide (rowOf Wa s = rowOf Wb s)) := by
    show _ = _
    by_cases h : rowOf Wa s = rowOf Wb s
    · rw [decide_eq_true h, decide_eq_true]; exact congrArg ints h
    · rw [decide_eq_false h, decide_eq_false]; exact fun e => h (ints_inj e)
  clear hua hub ha hb ia ib b0
  go_enter Try.func19, Try.ntmps19
  go_wp2_with fail
  refine HE.out.mono ?_
  rintro e w' ⟨rfl, q, rfl⟩
  rw [HD.out]
  obtain ⟨b, hb⟩ : ∃ b, decide (rowOf Wa s = rowOf Wb s) = b := ⟨_, rfl⟩
  rw [hb]
  have HBB := Lib.hid hb
  have B1 := Lib.hid (B0.out.trans ((below_drewN _ q).mono B0.out.size))
  clear HD hb HE
  go_wp2
  go_ret
  exact ⟨by rw [HBB.out]; rfl, B1.out⟩
structure Pair (w0 w : World) (oa ob : Option Nat) (Wa Wb : Ws) (ca cb : Nat) : Prop where
  a : WaysAt w (.map oa) Wa
  b : WaysAt w (.map ob) Wb
  ia : Is w ca 28 #[.map oa]
  ib : Is w cb 28 #[.map ob]
  bel : Below w0.heap.size w0 w
theorem Pair.next {w' : World} (h : Pair w0 w oa ob Wa Wb ca cb) (hb : Below w.heap.size w w') : Pair w0 w' oa ob Wa Wb ca cb :=
  ⟨h.a.below hb, h.b.below hb, h.ia.below hb h.ia.lt, h.ib.below hb h.ib.lt, h.bel.trans (hb.mono h.bel.size)⟩
set_option maxHeartbeats 4000000 in
set_option maxRecDepth 100000 in
theorem index_any {n : Nat} {l : List Df} {A : Option Addr} {cap : Nat} {b : Bool} (h : ListAt w 4 (DfAt w n) A l) (hb : Ask b l Wa Wb) (hp : Pair w w oa ob Wa Wb ca cb) :
    Calls Try.prog 24 #[.slice A l.length cap, .func (.func 19) #[] #[.pointer (some ⟨ca, 0, none⟩), .pointer (some ⟨cb, 0, none⟩)]] w fun e w' =>
      (∃ r : Int, e = .returned (.int .i64 r) ∧ decide (0 ≤ r) = !b) ∧ Below w.heap.size w w' := by
  have H := Lib.hid h
  have HP := Lib.hid hp
  have HB := Lib.hid hb
  have hle := h.le
  unfold maxLen at hle
  obtain ⟨ll, hll⟩ : ∃ n, l.length = n := ⟨_, rfl⟩
  have HLL := Lib.hid hll
  rw [hll] at hle ⊢
  clear h hp hb hll
  go_enter Try.func24, Try.ntmps24
  go_wp2
  go_loopw [8] (fun i wr => ∃ q : Nat, q ≤ ll ∧ i = .int .i64 q ∧ Hid (Pair w wr oa ob Wa Wb ca cb ∧ ∀ d ∈ l.take q, rowOf Wa d.name = rowOf Wb d.name)) (fun i _ => ll - (intOf i).toNat)
  case atStart => exact ⟨0, Nat.zero_le _, rfl, HP.out, by simp⟩
  case round =>
    obtain ⟨q, hq, rfl, HC⟩ := hrel
    have C1 := Lib.hid HC.out.1
    have C2 := Lib.hid HC.out.2
    clear HC
    by_cases hql : q < ll
    · have hqL : q < l.length := by rw [HLL.out]; exact hql
      obtain ⟨bk, o', cs2, rfl, hlt, _, hs2, hc2⟩ := H.out.get (by decide) hqL
      obtain ⟨d, hd⟩ : ∃ x, l[q] = x := ⟨_, rfl⟩
      rw [hd] at hs2
      obtain ⟨nm, li, T, lt, ct, A1, la, ca1, rfl, hnm, hnl, hli, hltt⟩ := hs2.shape
      have x0 := (C1.out.bel.cell (p := ⟨bk, o' + q * 4 + 0, none⟩) hlt).trans (hc2 0 _ rfl)
      rw [Nat.add_zero] at x0
      have x1 := (C1.out.bel.cell (p := ⟨bk, o' + q * 4 + 1, none⟩) hlt).trans (hc2 1 _ rfl)
      have x2 := (C1.out.bel.cell (p := ⟨bk, o' + q * 4 + 2, none⟩) hlt).trans (hc2 2 _ rfl)
      have x3 := (C1.out.bel.cell (p := ⟨bk, o' + q * 4 + 3, none⟩) hlt).trans (hc2 3 _ rfl)
      have HS := Lib.hid (same1_any hnl li T lt ct A1 la ca1 C1.out.a C1.out.b C1.out.ia C1.out.ib)
      have HN : Hid (l.take (q + 1) = l.take q ++ [d]) := by
        show _ = _
        rw [List.take_succ_eq_append_getElem hqL, hd]
      have HNM := Lib.hid hnm
      have HDL : Hid (d ∈ l) := by rw [← hd]; exact List.getElem_mem _
      clear hd hs2 hc2 hlt hnm hnl hli hltt hqL
      go_wp2_with fail
      refine HS.out.mono ?_
      rintro e w3 ⟨rfl, f3⟩
      have P3 := Lib.hid (C1.out.next f3)
      clear f3 HS x0 x1 x2 x3
      by_cases heq : rowOf Wa nm = rowOf Wb nm
      · have hd : decide (rowOf Wa nm = rowOf Wb nm) = true := decide_eq_true heq
        have HR : Hid (Pair w w3 oa ob Wa Wb ca cb ∧ ∀ d ∈ l.take (q + 1), rowOf Wa d.name = rowOf Wb d.name) := ⟨P3.out, fun e he => by
          rw [HN.out] at he
          rcases List.mem_append.1 he with he | he
          · exact C2.out e he
          · rw [List.mem_singleton.1 he, ← HNM.out]; exact heq⟩
        rw [hd]
        clear hd heq HN HNM P3 C1 C2
        go_wp2
        go_roundw
        case rel => exact ⟨q + 1, by omega, by go_num, HR⟩
        case measure => simp [intOf]; omega
      · have hd : decide (rowOf Wa nm = rowOf Wb nm) = false := decide_eq_false heq
        have hbf : b = false := by
          cases b with
          | false => rfl
          | true => exact absurd (HB.out.yes rfl d HDL.out) (by rw [← HNM.out]; exact heq)
        rw [hd]
        subst hbf
        clear hd heq HN HNM C1 C2
        go_wp2
        go_ret
        exact ⟨⟨_, rfl, by simp⟩, P3.out.bel⟩
    · have hqe : q = ll := by omega
      subst hqe
      have hbt : b = true := by
        cases b with
        | true => rfl
        | false =>
          obtain ⟨d, hd, hne⟩ := HB.out.no rfl
          exact absurd (C2.out d (by rw [List.take_of_length_le (by rw [HLL.out]; exact Nat.le_refl _)]; exact hd)) hne
      subst hbt
      clear C2
      go_wp2
      go_ret
      exact ⟨⟨_, rfl, by decide⟩, C1.out.bel⟩
theorem contains_any {n : Nat} {l : List Df} {A : Option Addr} {cap : Nat} {b : Bool} (h : ListAt w 4 (DfAt w n) A l) (hb : Ask b l Wa Wb) (hp : Pair w w oa ob Wa Wb ca cb) :
    Calls Try.prog 18 #[.slice A l.length cap, .func (.func 19) #[] #[.pointer (some ⟨ca, 0, none⟩), .pointer (some ⟨cb, 0, none⟩)]] w fun e w' =>
      e = .returned (.bool !b) ∧ Below w.heap.size w w' := by
  have HI := Lib.hid (index_any (cap := cap) h hb hp)
  clear h hb hp
  obtain ⟨ll, hll⟩ : ∃ n, l.length = n := ⟨_, rfl⟩
  rw [hll] at HI ⊢
  clear hll
  go_enter Try.func18, Try.ntmps18
  go_wp2_with fail
  refine HI.out.mono ?_
  rintro e w' ⟨⟨r, rfl, hr⟩, hb'⟩
  have HB := Lib.hid hb'
  clear hb' HI
  cases b with
  | true =>
    have hr : decide (0 ≤ r) = false := hr
    go_wp2
    go_ret
    exact ⟨rfl, HB.out⟩
  | false =>
    have hr : decide (0 ≤ r) = true := hr
    go_wp2
    go_ret
    exact ⟨rfl, HB.out⟩
theorem same_any {n : Nat} {l : List Df} {A : Option Addr} {cap : Nat} {b : Bool} (h : ListAt w 4 (DfAt w n) A l) (hb : Ask b l Wa Wb) (ha : WaysAt w (.map oa) Wa) (hb' : WaysAt w (.map ob) Wb) :
    Calls Try.prog 16 #[.slice A l.length cap, .map oa, .map ob] w fun e w' => e = .returned (.bool b) ∧ Below w.heap.size w w' := by
  obtain ⟨o1, ho1⟩ : ∃ o, Obj.cells #[.map oa] 28 = o := ⟨_, rfl⟩
  obtain ⟨o2, ho2⟩ : ∃ o, Obj.cells #[.map ob] 28 = o := ⟨_, rfl⟩
  have i1 : Is ((w.alloc o1).alloc o2) w.heap.size 28 #[.map oa] := by rw [← ho1]; exact (Is.made w _ _).alloc _
  have i2 : Is ((w.alloc o1).alloc o2) (w.heap.size + 1) 28 #[.map ob] := by
    rw [← ho2]
    have := Is.made (w.alloc o1) 28 #[.map ob]
    rwa [show (w.alloc o1).heap.size = w.heap.size + 1 by simp] at this
  have b2 : Below w.heap.size w ((w.alloc o1).alloc o2) := ((Below.refl _ w).alloc (Nat.le_refl _) o1).alloc (by simp) o2
  have HC := Lib.hid (contains_any (w := (w.alloc o1).alloc o2) (cap := cap) (h.below b2 (fun x _ cs h => DfAt.below b2 h)) hb ⟨ha.below b2, hb'.below b2, i1, i2, Below.refl _ _⟩)
  have B2 := Lib.hid b2
  have HO1 := Lib.hid ho1
  have HO2 := Lib.hid ho2
  obtain ⟨ll, hll⟩ : ∃ n, l.length = n := ⟨_, rfl⟩
  rw [hll] at HC ⊢
  clear hll h hb ha hb' i1 i2 b2 ho1 ho2
  go_enter Try.func16, Try.ntmps16
  go_wp2_with fail
  rw [HO1.out, HO2.out]
  refine HC.out.mono ?_
  rintro e w' ⟨rfl, g⟩
  have HB := Lib.hid (B2.out.trans (g.mono B2.out.size))
  clear g HC
  cases b <;>
  · go_wp2
    go_ret
    exact ⟨rfl, HB.out⟩
end
end Vy
end Go.Proofs.Ytelmdidgmpbnmaa
