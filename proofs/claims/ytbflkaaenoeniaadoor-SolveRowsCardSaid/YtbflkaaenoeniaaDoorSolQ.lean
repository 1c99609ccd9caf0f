/- The walk of layer 12's law SolveRows. -/
import Derived.BigQuiet
import Derived.Deep.QuietTactic
import Derived.Test.YtbflkaaenoeniaaDoorSolL
namespace Go.Proofs.YtbflkaaenoeniaaDoor
open Go.RowKit Lf Go.Deep Tr
namespace Sv
/-- The last region (and one more) that an element was put into. -/
def lst (Q : List (Nat × Nat)) (x : Nat) : Nat := Q.foldl (fun a p => if p.2 = x then max a (p.1 + 1) else a) 0
theorem lst_snoc (Q : List (Nat × Nat)) (r y x : Nat) : lst (Q ++ [(r, y)]) x = if y = x then max (lst Q x) (r + 1) else lst Q x := by
  unfold lst
  rw [List.foldl_append]
  rfl
theorem inn_snoc (Q : List (Nat × Nat)) (M : R2) (r y e c : Nat) : inn (Q ++ [(r, y)]) M e c = (inn Q M e c || (y == e && M c r)) := by
  unfold inn
  rw [List.any_append]
  simp
/-- Each outlives the next. -/
def rowL (k : Nat) : List (Nat × Nat) := (List.range k).map fun i => (i, i + 1)
theorem rowL_snoc (k : Nat) : rowL (k + 1) = rowL k ++ [(k, k + 1)] := by
  unfold rowL
  rw [List.range_succ, List.map_append]
  rfl
theorem row_all {k c d : Nat} (hd : d ≤ k) : all eqR (rowL k) c d = decide (c ≤ d) := by
  rw [Bool.eq_iff_iff, decide_eq_true_iff]
  constructor
  · intro h
    have := all_least (rowL k) (M := eqR) (Q := fun c d => decide (c ≤ d)) ⟨fun c => by simp, fun c d e h1 h2 => by simp at *; omega⟩ (fun c d h => by simp [eqR] at *; omega) (fun p hp => by
      unfold rowL at hp
      obtain ⟨i, _, rfl⟩ := List.mem_map.1 hp
      simp) c d h
    simpa using this
  · intro h
    have ok := all_ok (rowL k) eqR_ok
    induction d with
    | zero => obtain rfl : c = 0 := by omega
              exact ok.refl 0
    | succ d ih =>
      by_cases hcd : c = d + 1
      · subst hcd; exact ok.refl _
      · exact ok.trans _ _ _ (ih (by omega) (by omega)) (all_has (rowL k) eqR_ok (d, d + 1) (by
          unfold rowL
          exact List.mem_map.2 ⟨d, List.mem_range.2 (by omega), rfl⟩))
theorem row_in {n : Nat} : ∀ (l : List (Nat × Nat)) (Q : List (Nat × Nat)), (∀ p ∈ l, p.1 < n) → (∀ e c, inn Q (all eqR (rowL (n - 1))) e c = decide (c < lst Q e)) → ∀ e c, inn (Q ++ l) (all eqR (rowL (n - 1))) e c = decide (c < lst (Q ++ l) e)
  | [], Q, _, h => by simpa using h
  | p :: l, Q, hp, h => by
    have := row_in l (Q ++ [p]) (fun q hq => hp q (List.mem_cons_of_mem _ hq)) (fun e c => by
      obtain ⟨r, y⟩ := p
      have hr : r < n := hp _ List.mem_cons_self
      rw [inn_snoc, lst_snoc, h e c, row_all (by omega)]
      by_cases hye : y = e
      · subst hye
        rw [if_pos rfl]
        simp only [beq_self_eq_true, Bool.true_and]
        rw [Bool.eq_iff_iff, Bool.or_eq_true, decide_eq_true_iff, decide_eq_true_iff, decide_eq_true_iff]
        omega
      · rw [if_neg hye, show (y == e) = false by simp; exact hye]
        simp)
    simpa using this
theorem row_end {n : Nat} {Q : List (Nat × Nat)} (h : ∀ p ∈ Q, p.1 < n) (e c : Nat) : inn Q (all eqR (rowL (n - 1))) e c = decide (c < lst Q e) := by
  have := row_in Q [] h (fun e c => by simp [inn, lst]) e c
  simpa using this
theorem two_at {w w' : World} {A : Option Addr} {L : List (Int × Int)} (h : ListAt w 2 TwoAt A L) {B : Nat} (hb : Below B w w') (hB : w.heap.size = B) {k : Nat} (hk : k < L.length) :
    ∃ bk o x y, A = some ⟨bk, o, none⟩ ∧ L[k] = (x, y) ∧ w'.cell? ⟨bk, o + k * 2, none⟩ = some (.int .i64 x) ∧ w'.cell? ⟨bk, o + k * 2 + 1, none⟩ = some (.int .i64 y) := by
  obtain ⟨bk, o, cs, hA, hl, _, hp, hc⟩ := h.get (by decide) hk
  obtain ⟨x, y, hpx⟩ : ∃ x y, L[k] = (x, y) := ⟨_, _, rfl⟩
  rw [hpx] at hp
  have hp' : cs = [.int .i64 x, .int .i64 y] := hp
  subst hp'
  subst hB
  refine ⟨bk, o, x, y, hA, hpx, ?_, ?_⟩
  · exact (hb.cell (p := ⟨bk, o + k * 2, none⟩) hl).trans (hc 0 _ rfl)
  · exact (hb.cell (p := ⟨bk, o + k * 2 + 1, none⟩) hl).trans (hc 1 _ rfl)
theorem rem_u64 (a : Int) {m : Nat} (hm : 0 < m) : ∃ k : Nat, (IntKind.u64.wrap a).tmod (m : Int) = (k : Int) ∧ k < m := by
  have h0 : 0 ≤ IntKind.u64.wrap a := by rw [IntKind.wrap_u64]; omega
  rw [Int.tmod_eq_emod_of_nonneg h0]
  have h1 := Int.emod_nonneg (IntKind.u64.wrap a) (b := (m : Int)) (by omega)
  have h2 := Int.emod_lt_of_pos (IntKind.u64.wrap a) (b := (m : Int)) (by omega)
  exact ⟨(IntKind.u64.wrap a % (m : Int)).toNat, by omega, by omega⟩
/-- The row of last regions. -/
def LastAt (w : World) (R : Nat) (Q : List (Nat × Nat)) : Prop := ∃ cs, Is w R 3 cs ∧ cs.size = 100 ∧ ∀ x, x < 100 → cs[x]? = some (.int .i64 (lst Q x : Nat))
theorem LastAt.cell {w : World} {R : Nat} {Q : List (Nat × Nat)} (h : LastAt w R Q) {x : Nat} (hx : x < 100) : w.cell? ⟨R, x, none⟩ = some (.int .i64 (lst Q x : Nat)) := by
  obtain ⟨cs, hc, _, hr⟩ := h
  rw [hc.at_, hr x hx]
theorem LastAt.free {w : World} {R : Nat} {Q : List (Nat × Nat)} (h : LastAt w R Q) (x : Nat) : w.frozen? ⟨R, x, none⟩ = false := by
  obtain ⟨cs, hc, _⟩ := h
  exact hc.free x
theorem LastAt.mod {w w' : World} {R : Nat} {Q : List (Nat × Nat)} {S : Nat → Prop} (h : LastAt w R Q) (hm : Mod S w w') (hS : ¬S R) : LastAt w' R Q := by
  obtain ⟨cs, hc, hr⟩ := h
  exact ⟨cs, hm.is hc hS, hr⟩
theorem LastAt.made (w : World) : LastAt (w.alloc (.cells (madeCells #[.int .i64 0] 100) 3)) w.heap.size [] :=
  ⟨_, Is.made w _ _, by simp [madeCells], fun x hx => by simp [madeCells, hx, Nat.mod_one, lst]⟩
theorem LastAt.more {w : World} {R r y : Nat} {Q : List (Nat × Nat)} (h : LastAt w R Q) (hy : y < 100) (hr : lst Q y < r + 1) : LastAt (w.setCell ⟨R, y, none⟩ (.int .i64 ((r : Int) + 1))) R (Q ++ [(r, y)]) := by
  obtain ⟨cs, hc, hm, hx⟩ := h
  refine ⟨_, hc.put y _, by simp [hm], fun x hx' => ?_⟩
  rw [Array.getElem?_setIfInBounds, lst_snoc]
  by_cases hyx : y = x
  · subst hyx
    rw [if_pos rfl, if_pos (by omega), if_pos rfl, Nat.max_eq_right (by omega)]
    rfl
  · rw [if_neg hyx, if_neg hyx]
    exact hx x hx'
theorem LastAt.less {w : World} {R r y : Nat} {Q : List (Nat × Nat)} (h : LastAt w R Q) (hr : r + 1 ≤ lst Q y) : LastAt w R (Q ++ [(r, y)]) := by
  obtain ⟨cs, hc, hm, hx⟩ := h
  refine ⟨cs, hc, hm, fun x hx' => ?_⟩
  rw [lst_snoc, hx x hx']
  by_cases hyx : y = x
  · subst hyx
    rw [if_pos rfl, Nat.max_eq_left hr]
  · rw [if_neg hyx]
theorem Mod.last {w : World} {R : Nat} (i : Nat) (u : Value) : Mod (fun k => k = R) w (w.setCell ⟨R, i, none⟩ u) := Mod.put (S := fun k => k = R) (Mod.refl _ w) rfl i u
theorem Knows.last {w : World} {b b1 b2 n m : Nat} {O I : Nat → Nat} {M : R2} {G : Nat → Nat → Bool} (h : Knows w b b1 b2 O I n m M G) {R : Nat} {cs : Array Value} (hi : Is w R 3 cs) (h0 : R ≠ 0) (i : Nat) (u : Value) : Knows (w.setCell ⟨R, i, none⟩ u) b b1 b2 O I n m M G := by
  obtain ⟨X, Y, hs, h1, h2⟩ := h.sol
  have hm := Mod.last (w := w) (R := R) i u
  have key : ∀ {k : Nat} {t : TypeId} {cs : Array Value}, Is w k t cs → t ≠ 3 → (w.setCell ⟨R, i, none⟩ u).heap[k]? = w.heap[k]? := fun hi' ht => hm.block _ hi'.lt fun hs => is_ne hi' hi ht hs
  obtain ⟨c1, o1, _⟩ := hs.over
  obtain ⟨c2, i1, _⟩ := hs.inn
  exact ⟨⟨X, Y, hs.of (hs.tab.mod hm fun e => h0 e.symm) (key hs.head (by decide)) (key o1 (by decide)) (key i1 (by decide)) (fun i hi => key (hs.orow i hi) (by decide)) (fun i hi => key (hs.irow i hi) (by decide)), h1, h2⟩, h.closed⟩
theorem Knows.drewN {w : World} {b b1 b2 n m : Nat} {O I : Nat → Nat} {M : R2} {G : Nat → Nat → Bool} (h : Knows w b b1 b2 O I n m M G) (q : Nat) : Knows (w.drewN q) b b1 b2 O I n m M G := by
  obtain ⟨X, Y, hs, h1, h2⟩ := h.sol
  exact ⟨⟨X, Y, hs.drewN q, h1, h2⟩, h.closed⟩
theorem below_drewN {B : Nat} {x y : World} (h : Below B x y) (q : Nat) : Below B x (y.drewN q) := ⟨h.os, h.tape, h.output, h.size, h.block⟩
/-- What stands in SolveRows: the solver, the row of last regions. -/
structure Ss (w1 w : World) (b b1 b2 : Nat) (O I : Nat → Nat) (N R : Nat) (Q : List (Nat × Nat)) (l : List (Nat × Nat)) : Prop where
  knows : Knows w b b1 b2 O I N 100 (all eqR l) (inn Q (all eqR l))
  last : LastAt w R Q
  fits : ∀ p ∈ Q, p.1 < N
  since : Below w1.heap.size w1 w
theorem Ss.drew {w1 w : World} {b b1 b2 N R : Nat} {O I : Nat → Nat} {Q l : List (Nat × Nat)} (h : Ss w1 w b b1 b2 O I N R Q l) : Ss w1 w.drew b b1 b2 O I N R Q l := ⟨h.knows.drew, h.last, h.fits, ⟨h.since.os, h.since.tape, h.since.output, h.since.size, h.since.block⟩⟩
theorem Ss.drewN {w1 w : World} {b b1 b2 N R : Nat} {O I : Nat → Nat} {Q l : List (Nat × Nat)} (h : Ss w1 w b b1 b2 O I N R Q l) (q : Nat) : Ss w1 (w.drewN q) b b1 b2 O I N R Q l := ⟨h.knows.drewN q, h.last, h.fits, below_drewN h.since q⟩
section
variable {w : World} {n : Int} {A : Option Addr} {L : List (Int × Int)} {cp : Nat}
set_option maxHeartbeats 8000000 in
set_option maxRecDepth 100000 in
theorem solveRows_walk (hT : TabAt w) (hL : ListAt w 2 TwoAt A L) :
    Calls Tryd.prog 6 #[.int .i64 n, .slice A L.length cp] w fun e w' => e = .returned (.bool true) ∧ Below w.heap.size w w' := by
  have HT := Lib.hid hT
  have HL := Lib.hid hL
  obtain ⟨k0, hk0, hk60⟩ := rem_u64 n (m := 60) (by decide)
  have hk0' : (IntKind.u64.wrap n).tmod 60 = (k0 : Int) := hk0
  obtain ⟨N, hN⟩ : ∃ N : Nat, k0 + 1 = N := ⟨_, rfl⟩
  have hN1 : 1 + (k0 : Int) = (N : Int) := by omega
  have hNp : 0 < N := by omega
  have hN60 : N ≤ 60 := by omega
  clear hT hL hk0
  go_enter Tryd.func6, Tryd.ntmps6
  go_wp2_with fail
  refine (solved_any HT.out).mono ?_
  rintro e w1 ⟨rfl, q1⟩
  have B1 := Lib.hid q1
  have T1 := Lib.hid (HT.out.below q1 HT.out.pos)
  have L1 := Lib.hid (HL.out.below q1 fun _ _ _ h => h)
  clear q1 hk0'
  by_cases hlen : 60 < L.length
  · have hlen' : (60 : Int) < (L.length : Int) := by omega
    go_wp2_with fail
    refine (solved_any T1.out).mono ?_
    rintro e w2 ⟨rfl, q2⟩
    have B2 := Lib.hid (B1.out.trans (q2.mono B1.out.size))
    clear q2
    go_wp2
    go_ret
    exact ⟨rfl, B2.out⟩
  · have hlen' : decide ((60 : Int) < (L.length : Int)) = false := decide_eq_false (by omega)
    have HNW := Lib.hid (new_any w1 (n := N) (m := 100) (by omega) (by decide))
    go_wp2_with fail
    refine HNW.out.mono ?_
    rintro e w2 ⟨b, rfl, q1⟩
    obtain ⟨b1, b2, O, I, hk, hr⟩ := q1.knows T1.out hNp
    have HR := Lib.hid hr
    obtain ⟨R, hR⟩ : ∃ R, w2.heap.size = R := ⟨_, rfl⟩
    have hRp : w1.heap.size ≤ R := by rw [← hR]; exact q1.since.size
    have hR0 : R ≠ 0 := by have := T1.out.pos; omega
    have hRN : ¬Rw O I N 100 R := fun h => by have := hk.rw_lt h; omega
    have S0 : Hid (Ss w1 (w2.alloc (.cells (madeCells #[.int .i64 0] 100) 3)) b b1 b2 O I N R [] []) := by
      have hl := LastAt.made w2
      rw [hR] at hl
      refine ⟨?_, hl, fun p hp => (by cases hp), q1.since.alloc q1.since.size _⟩
      have := hk.below (w' := w2.alloc (.cells (madeCells #[.int .i64 0] 100) 3)) ((Below.refl _ _).alloc (Nat.le_refl _) _)
      have e : inn [] (all eqR []) = fun _ _ => false := by funext e r; rfl
      rw [e]
      exact this
    have HRN := Lib.hid hRN
    have hmk : ∀ w, (Instr.makeSlice 29 (.int .i64 100) (.int .i64 100)).run Tryd.prog w = .ok (.slice (some ⟨w.heap.size, 0, none⟩) 100 100) (w.alloc (.cells (madeCells #[.int .i64 0] 100) 3)) :=
      run_make_row' (P := Tryd.prog) 29 3 (.int .i64 0) 8 Tryd.underlying29 info_int rfl .i64 .i64 100 (by omega) (by omega)
    clear q1 hk hr hRN HNW
    go_wp2
    clear hmk hR
    go_loopw [8] (fun i wr => ∃ k : Nat, k ≤ L.length ∧ i = .int .i64 k ∧ Hid (∃ Q, Ss w1 wr b b1 b2 O I N R Q [])) (fun i _ => L.length - (intOf i).toNat)
    case atStart => exact ⟨0, Nat.zero_le _, rfl, _, S0.out⟩
    case round =>
      obtain ⟨k, hk, rfl, HQ⟩ := hrel
      obtain ⟨Q, hs⟩ := HQ.out
      have HS := Lib.hid hs
      by_cases hkl : k < L.length
      · obtain ⟨bk, o, u, v, rfl, _, cx, cy⟩ := two_at L1.out hs.since rfl hkl
        obtain ⟨r, hr, hrN⟩ := rem_u64 u hNp
        obtain ⟨y, hy, hy100⟩ := rem_u64 v (m := 100) (by decide)
        have hy' : (IntKind.u64.wrap v).tmod 100 = (y : Int) := hy
        have hN0 : (N : Int) ≠ 0 := by omega
        have hNw : IntKind.u64.wrap (N : Int) = (N : Int) := by rw [IntKind.wrap_u64]; omega
        clear hs hy
        go_wp2_with fail
        go_region
        have HS5 := Lib.hid HS.out.drew
        obtain ⟨w5, hw5⟩ : ∃ w5, wr.drew = w5 := ⟨_, rfl⟩
        rw [hw5] at HS5 ⊢
        clear hw5 HS cx cy hr hy'
        have HP := Lib.hid (put_any HS5.out.knows (r := r) (e := y) hrN hy100)
        go_wp2_with fail
        refine HP.out.mono ?_
        rintro e w6 ⟨rfl, q1, q2⟩
        have L6 := Lib.hid (HS5.out.last.mod q2 HRN.out)
        have B6 := Lib.hid (q2.below HS5.out.since HS5.out.since.size HR.out)
        rw [inn_put] at q1
        have K6 := Lib.hid q1
        have F6 : Hid (∀ p ∈ Q ++ [(r, y)], p.1 < N) := fun p hp => by
          rcases List.mem_append.1 hp with hp | hp
          · exact HS5.out.fits p hp
          · simp at hp; subst hp; exact hrN
        have cl := L6.out.cell hy100
        have fl := L6.out.free y
        clear q1 q2 HP HS5
        by_cases hlt : lst Q y < r + 1
        · have hd : ((lst Q y : Nat) : Int) < (r : Int) + 1 := by omega
          have HNX : Hid (∃ Q', Ss w1 (w6.setCell ⟨R, y, none⟩ (.int .i64 ((r : Int) + 1))) b b1 b2 O I N R Q' []) := by
            obtain ⟨cs, hi, _⟩ := L6.out
            exact ⟨_, K6.out.last hi hR0 _ _, L6.out.more hy100 hlt, F6.out, B6.out.setCell hRp _⟩
          go_wp2
          go_roundw
          case rel => exact ⟨k + 1, by omega, by go_num, HNX⟩
          case measure => simp [intOf]; omega
        · have hd : decide (((lst Q y : Nat) : Int) < (r : Int) + 1) = false := decide_eq_false (by omega)
          have HNX : Hid (∃ Q', Ss w1 w6 b b1 b2 O I N R Q' []) := ⟨_, K6.out, L6.out.less (by omega), F6.out, B6.out⟩
          go_wp2
          go_roundw
          case rel => exact ⟨k + 1, by omega, by go_num, HNX⟩
          case measure => simp [intOf]; omega
      · have HS := Lib.hid hs
        clear HQ hs
        go_wp2
        go_loopw [11] (fun i wr => ∃ k : Nat, k < N ∧ i = .int .i64 k ∧ Hid (Ss w1 wr b b1 b2 O I N R Q (rowL k))) (fun i _ => N - (intOf i).toNat)
        case atStart => exact ⟨0, hNp, rfl, HS⟩
        case round =>
          obtain ⟨k, hk, rfl, HS⟩ := hrel
          by_cases hkN : k + 1 < N
          · have HP := Lib.hid (outlives_any HS.out.knows (x := k) (y := k + 1) (by omega) hkN)
            have hkN' : (k : Int) + 1 < (N : Int) := by omega
            go_wp2_with fail
            refine HP.out.mono ?_
            rintro e w6 ⟨rfl, q1, q2⟩
            rw [← all_snoc eqR (rowL k) (k, k + 1), ← rowL_snoc, inn_out, ← all_snoc eqR (rowL k) (k, k + 1), ← rowL_snoc] at q1
            have HNX : Hid (Ss w1 w6 b b1 b2 O I N R Q (rowL (k + 1))) := ⟨q1, HS.out.last.mod q2 HRN.out, HS.out.fits, q2.below HS.out.since HS.out.since.size HR.out⟩
            clear q1 q2 HP
            go_wp2
            go_roundw
            case rel => exact ⟨k + 1, by omega, by go_num, HNX⟩
            case measure => simp [intOf]; omega
          · have hkN' : decide ((k : Int) + 1 < (N : Int)) = false := decide_eq_false (by omega)
            have hke : k = N - 1 := by omega
            have HE : Hid (∀ e c, inn Q (all eqR (rowL k)) e c = decide (c < lst Q e)) := by rw [hke]; exact row_end HS.out.fits
            clear hke
            go_wp2
            go_loopw [12] (fun i wr => ∃ q : Nat, q ≤ N ∧ i = .int .i64 q ∧ Hid (Ss w1 wr b b1 b2 O I N R Q (rowL k))) (fun i _ => N - (intOf i).toNat)
            case atStart => exact ⟨0, Nat.zero_le _, rfl, HS⟩
            case round =>
              obtain ⟨q, hq, rfl, HS⟩ := hrel
              by_cases hqN : q < N
              · go_wp2
                go_loopw [13] (fun i wr => ∃ x : Nat, x ≤ 100 ∧ i = .int .i64 x ∧ Hid (Ss w1 wr b b1 b2 O I N R Q (rowL k))) (fun i _ => 100 - (intOf i).toNat)
                case atStart => exact ⟨0, Nat.zero_le _, rfl, HS⟩
                case round =>
                  obtain ⟨x, hx, rfl, HS⟩ := hrel
                  by_cases hxN : x < 100
                  · have HC : Hid (∀ j, Calls Tryd.prog 13 #[.pointer (some ⟨b, 0, none⟩), .int .i64 q, .int .i64 x] (wr.drewN j) fun e w' => e = .returned (.bool (decide (q < lst Q x))) ∧ ∃ m, w' = wr.drewN m) := fun j => by
                      have := has_knows (HS.out.drewN j).knows hqN hxN
                      rw [HE.out] at this
                      exact this.mono fun e w' h => ⟨h.1, j, h.2.symm⟩
                    have cl := HS.out.last.cell hxN
                    have hdec : decide ((q : Int) < ((lst Q x : Nat) : Int)) = decide (q < lst Q x) := by rw [Bool.eq_iff_iff, decide_eq_true_iff, decide_eq_true_iff]; omega
                    go_wp2_with fail
                    go_quiet ((go_at_call 13; exact HC.out _))
                    obtain ⟨bb, hbb⟩ : ∃ bb, decide (q < lst Q x) = bb := ⟨_, rfl⟩
                    have HSN := Lib.hid (HS.out.drewN nq)
                    rw [hbb]
                    rw [hbb] at hdec
                    clear hbb HC cl
                    cases bb <;>
                    · go_wp2
                      go_roundw
                      case rel => exact ⟨x + 1, by omega, by go_num, HSN⟩
                      case measure => simp [intOf]; omega
                  · have hxe : x = 100 := by omega
                    subst hxe
                    go_wp2
                    go_roundw
                    case rel => exact ⟨q + 1, by omega, by go_num, HS⟩
                    case measure => simp [intOf]; omega
              · have hqe : q = N := by omega
                subst hqe
                go_wp2
                go_ret
                exact ⟨rfl, B1.out.trans (HS.out.since.mono B1.out.size)⟩
end
end Sv
end Go.Proofs.YtbflkaaenoeniaaDoor
