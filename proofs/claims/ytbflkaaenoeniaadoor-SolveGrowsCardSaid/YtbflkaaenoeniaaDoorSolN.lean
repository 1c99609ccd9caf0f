/- The walk of layer 12's law SolveGrows. -/
import Derived.Test.YtbflkaaenoeniaaDoorSolL
namespace Go.Proofs.YtbflkaaenoeniaaDoor
open Go.RowKit Lf Go.Deep Tr
namespace Sv
theorem list_take {α : Type} {w : World} {sz : Nat} {P : α → List Value → Prop} {A : Option Addr} {l : List α} (h : ListAt w sz P A l) (k : Nat) : ListAt w sz P A (l.take k) := by
  obtain ⟨xs, ⟨h1, h1'⟩, ⟨h2, h2'⟩, h3⟩ := h
  have hlen : (xs.take (k * sz)).length = (l.take k).length * sz := by
    rw [List.length_take, List.length_take, h1]
    by_cases hk : k ≤ l.length
    · rw [Nat.min_eq_left hk, Nat.min_eq_left (Nat.mul_le_mul_right _ hk)]
    · have hk' : l.length ≤ k := by omega
      rw [Nat.min_eq_right (Nat.mul_le_mul_right _ hk'), Nat.min_eq_right hk']
  refine ⟨xs.take (k * sz), ⟨hlen, by rw [List.length_take]; omega⟩, ⟨fun h0 => ?_, fun u hu => h2' u (List.mem_of_mem_take hu)⟩, fun i hi => ?_⟩
  · have hx : 0 < xs.length := by rw [List.length_take] at h0; omega
    obtain ⟨bk, o, e, hl, hc⟩ := h2 hx
    refine ⟨bk, o, e, hl, fun i u hu => hc i u ?_⟩
    rw [List.getElem?_take] at hu
    split at hu
    · exact hu
    · cases hu
  · rw [List.length_take] at hi
    have := h3 i (by omega)
    rw [List.getElem_take]
    have e : ((xs.take (k * sz)).drop (i * sz)).take sz = (xs.drop (i * sz)).take sz := by
      rw [List.drop_take, List.take_take]
      congr 1
      have : (i + 1) * sz ≤ k * sz := Nat.mul_le_mul_right _ (by omega)
      rw [Nat.succ_mul] at this
      omega
    rw [e]
    exact this
theorem inn_mono {P Q : List (Nat × Nat)} {M N : R2} (hP : ∀ p ∈ P, p ∈ Q) (hM : ∀ c d, M c d = true → N c d = true) {e r : Nat} (h : inn P M e r = true) : inn Q N e r = true := by
  unfold inn at h ⊢
  rw [List.any_eq_true] at h ⊢
  obtain ⟨p, hp, h⟩ := h
  rw [Bool.and_eq_true] at h
  exact ⟨p, hP p hp, by rw [h.1, hM _ _ h.2]; rfl⟩
theorem all_mono {l m : List (Nat × Nat)} (h : ∀ p ∈ l, p ∈ m) : ∀ c d, all eqR l c d = true → all eqR m c d = true :=
  all_least l (all_ok m eqR_ok) (fun _ _ h => all_le m h) fun p hp => all_has m eqR_ok p (h p hp)
theorem flat_mono {α β : Type} (f : α → List β) {l m : List α} (h : ∀ x ∈ l, x ∈ m) : ∀ p ∈ l.flatMap f, p ∈ m.flatMap f := fun p hp => by
  obtain ⟨x, hx, h1⟩ := List.mem_flatMap.1 hp
  exact List.mem_flatMap.2 ⟨x, h x hx, h1⟩
/-- What is in what, by all that was told. -/
def GG (n m : Nat) (L : List Opn) : Nat → Nat → Bool := inn (puts n m L) (all eqR (outs n L))
theorem GG_mono {n m : Nat} {l L : List Opn} (h : ∀ x ∈ l, x ∈ L) {e r : Nat} (k : GG n m l e r = true) : GG n m L e r = true :=
  inn_mono (flat_mono _ h) (all_mono (flat_mono _ h)) k
section
variable {w : World} {n m : Int} {A : Option Addr} {L : List Opn} {cp : Nat}
theorem solveGrows_not (hT : TabAt w) (h : ¬(0 ≤ n ∧ n ≤ 12 ∧ 0 ≤ m ∧ m ≤ 150 ∧ L.length ≤ 60)) :
    Calls Tryd.prog 5 #[.int .i64 n, .int .i64 m, .slice A L.length cp] w fun e w' => e = .returned (.bool true) ∧ Below w.heap.size w w' := by
  have HT := Lib.hid hT
  have HN := Lib.hid h
  clear hT h
  go_enter Tryd.func5, Tryd.ntmps5
  go_wp2_with fail
  refine (solved_any HT.out).mono ?_
  rintro e w1 ⟨rfl, q1⟩
  have B1 := Lib.hid q1
  have T1 := Lib.hid (HT.out.below q1 HT.out.pos)
  clear q1
  go_wp2_with fail
  refine (small_no HN.out _).mono ?_
  rintro e w2 ⟨rfl, rfl⟩
  go_wp2_with fail
  refine (solved_any T1.out).mono ?_
  rintro e w2 ⟨rfl, q2⟩
  have B2 := Lib.hid (B1.out.trans (q2.mono B1.out.size))
  clear q2
  go_wp2
  go_ret
  exact ⟨rfl, B2.out⟩
set_option maxHeartbeats 8000000 in
set_option maxRecDepth 100000 in
theorem solveGrows_small {n m : Nat} (hT : TabAt w) (hL : ListAt w 3 OpAt A L) (hcp : L.length ≤ cp) (h1 : n ≤ 12) (h2 : m ≤ 150) (h3 : L.length ≤ 60) :
    Calls Tryd.prog 5 #[.int .i64 n, .int .i64 m, .slice A L.length cp] w fun e w' => e = .returned (.bool true) ∧ Below w.heap.size w w' := by
  have HT := Lib.hid hT
  have HL := Lib.hid hL
  obtain ⟨c, hc⟩ : ∃ c, L.length / 2 = c := ⟨_, rfl⟩
  have hc1 : c ≤ L.length := by omega
  have hc2 : (L.take c).length = c := by rw [List.length_take]; omega
  have HC2 := Lib.hid hc2
  have hdiv : ((L.length : Int)) / 2 = (c : Int) := by omega
  clear hT hL hc hc2
  go_enter Tryd.func5, Tryd.ntmps5
  go_wp2_with fail
  refine (solved_any HT.out).mono ?_
  rintro e w1 ⟨rfl, q1⟩
  have B1 := Lib.hid q1
  have T1 := Lib.hid (HT.out.below q1 HT.out.pos)
  have L1 := Lib.hid (HL.out.below q1 fun _ _ _ h => h)
  clear q1
  go_wp2_with fail
  refine (small_yes (by omega) (by omega) (by omega) (by omega) h3 _).mono ?_
  rintro e w2 ⟨rfl, rfl⟩
  have hcc : c ≤ cp := by omega
  have tl := told_any T1.out (n := n) (m := m) (by omega) (by omega) cp (list_take L1.out c) (by rw [HC2.out]; omega)
  rw [HC2.out] at tl
  have TL := Lib.hid tl
  clear tl
  go_wp2_with fail
  refine TL.out.mono ?_
  rintro e w2 ⟨b, vo, vp, rfl, q2⟩
  have B2 := Lib.hid (B1.out.trans (q2.since.mono B1.out.size))
  have KN := Lib.hid q2.knows
  have T2 := Lib.hid (T1.out.below q2.since T1.out.pos)
  have L2 := Lib.hid (L1.out.below q2.since fun _ _ _ h => h)
  clear q2 TL
  go_wp2_with fail
  refine (told_any T2.out (by omega) (by omega) _ L2.out (by omega)).mono ?_
  rintro e w3 ⟨b', vo', vp', rfl, q3⟩
  have B3 := Lib.hid (B2.out.trans (q3.since.mono B2.out.size))
  have KN' := Lib.hid q3.knows
  have KS : Hid (0 < n → ∃ b1 b2 O I M, Knows w3 b b1 b2 O I n m M (GG n m (L.take c))) := fun h0 => by
    obtain ⟨b1, b2, O, I, hk, _⟩ := KN.out h0
    exact ⟨b1, b2, O, I, _, hk.below q3.since⟩
  have KT : Hid (0 < n → ∃ b1 b2 O I M, Knows w3 b' b1 b2 O I n m M (GG n m L)) := fun h0 => by
    obtain ⟨b1, b2, O, I, hk, _⟩ := KN'.out h0
    exact ⟨b1, b2, O, I, _, hk⟩
  have MO : Hid (∀ e r, GG n m (L.take c) e r = true → GG n m L e r = true) := fun e r h => GG_mono (fun x hx => List.mem_of_mem_take hx) h
  obtain ⟨G, hG⟩ : ∃ G, GG n m (L.take c) = G := ⟨_, rfl⟩
  obtain ⟨G', hG'⟩ : ∃ G, GG n m L = G := ⟨_, rfl⟩
  rw [hG] at KS MO
  rw [hG'] at KT MO
  clear q3 KN KN' T1 T2 L1 L2 HL HT B1 B2 hG hG' hdiv HC2
  go_wp2
  go_loopw [16] (fun i wr => ∃ k : Nat, k ≤ n ∧ i = .int .i64 k ∧ wr = w3) (fun i _ => n - (intOf i).toNat)
  case atStart => exact ⟨0, Nat.zero_le _, rfl, rfl⟩
  case round =>
    obtain ⟨k, hk, rfl, rfl⟩ := hrel
    by_cases hkn : k < n
    · obtain ⟨b1, b2, O, I, M, h1⟩ := KS.out (by omega)
      obtain ⟨c1, c2, O', I', M', h2⟩ := KT.out (by omega)
      have K1 := Lib.hid h1
      have K2 := Lib.hid h2
      clear h1 h2
      go_wp2
      go_loopw [17] (fun i wi => ∃ q : Nat, q ≤ m ∧ i = .int .i64 q ∧ wi = wr) (fun i _ => m - (intOf i).toNat)
      case atStart => exact ⟨0, Nat.zero_le _, rfl, rfl⟩
      case round =>
        obtain ⟨q, hq, rfl, rfl⟩ := hrel
        by_cases hqm : q < m
        · have H1 := Lib.hid (has_knows K1.out hkn hqm)
          have H2 := Lib.hid (has_knows K2.out hkn hqm)
          cases hx : G q k with
          | false =>
            rw [hx] at H1
            clear hx
            go_wp2_with fail
            refine H1.out.mono ?_
            rintro e w6 ⟨rfl, rfl⟩
            go_wp2
            go_roundw
            case rel => exact ⟨q + 1, by omega, by go_num, trivial⟩
            case measure => simp [intOf]; omega
          | true =>
            rw [MO.out q k hx] at H2
            rw [hx] at H1
            clear hx
            go_wp2_with fail
            refine H1.out.mono ?_
            rintro e w6 ⟨rfl, rfl⟩
            go_wp2_with fail
            refine H2.out.mono ?_
            rintro e w6 ⟨rfl, rfl⟩
            go_wp2
            go_roundw
            case rel => exact ⟨q + 1, by omega, by go_num, trivial⟩
            case measure => simp [intOf]; omega
        · have hqe : q = m := by omega
          subst hqe
          go_wp2
          go_roundw
          case rel => exact ⟨k + 1, by omega, by go_num, trivial⟩
          case measure => simp [intOf]; omega
    · have hke : k = n := by omega
      subst hke
      go_wp2
      go_ret
      exact ⟨rfl, B3.out⟩
theorem solveGrows_walk (hT : TabAt w) (hL : ListAt w 3 OpAt A L) (hcp : L.length ≤ cp) : Calls Tryd.prog 5 #[.int .i64 n, .int .i64 m, .slice A L.length cp] w fun e w' => e = .returned (.bool true) ∧ Below w.heap.size w w' := by
  by_cases h : 0 ≤ n ∧ n ≤ 12 ∧ 0 ≤ m ∧ m ≤ 150 ∧ L.length ≤ 60
  · obtain ⟨h1, h2, h3, h4, h5⟩ := h
    obtain ⟨n', rfl⟩ : ∃ k : Nat, n = k := ⟨n.toNat, by omega⟩
    obtain ⟨m', rfl⟩ : ∃ k : Nat, m = k := ⟨m.toNat, by omega⟩
    exact solveGrows_small hT hL hcp (by omega) (by omega) h5
  · exact solveGrows_not hT h
end
end Sv
end Go.Proofs.YtbflkaaenoeniaaDoor
