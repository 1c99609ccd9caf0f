/- Layer 13: is one path the beginning of another one? Which of two numbers is less? -/
import Derived.Test.YtbhjdpaicfnfcaaHeapB
import Derived.Test.YtbhjdpaicfnfcaaEqInts
namespace Go.Proofs.Ytbhjdpaicfnfcaa
open Go.RowKit Go.Deep Tr
namespace Hp
def begB (l m : List Int) : Bool := decide (l.length ≤ m.length) && decide (l = m.take l.length)
theorem rowI_le {w : World} {v : Value} {l : List Int} (h : RowI w v l) : l.length ≤ 9223372036854775807 := by
  obtain ⟨A, c, _, h1⟩ := h
  have := h1.le
  unfold maxLen at this
  omega
theorem RowI.take {w : World} {A : Option Addr} {c : Nat} {m : List Int} (h : RowI w (.slice A m.length c) m) (k : Nat) (hk : k ≤ m.length) : RowI w (.slice A (m.take k).length c) (m.take k) := by
  obtain ⟨A', c', e, hr, hn⟩ := rowI_cells h
  injection e with e1 e2 e3
  subst e1
  have hl := rowI_le h
  refine rowI_mk (fun h0 => ?_) (by rw [List.length_take]; unfold maxLen; omega)
  have hp : 0 < (intsC m).length := by
    rw [intsC_length] at h0 ⊢
    rw [List.length_take] at h0
    omega
  obtain ⟨bk, o, ea, hlt, hc⟩ := hr hp
  refine ⟨bk, o, ea, hlt, fun i u hu => hc i u ?_⟩
  unfold intsC at hu ⊢
  rw [List.map_take, List.getElem?_take] at hu
  split at hu
  · exact hu
  · cases hu
set_option maxHeartbeats 4000000
set_option maxRecDepth 100000
theorem begins_any {w : World} {u v : Value} {l m : List Int} (hu : RowI w u l) (hv : RowI w v m) (hcap : ∀ A n c, v = .slice A n c → n ≤ c) :
    Calls Try.prog 64 #[u, v] w fun e w' => e = .returned (.bool (begB l m)) ∧ ∃ q, w.drewN q = w' := by
  have hl := rowI_le hu
  have hm := rowI_le hv
  obtain ⟨A1, c1, rfl, h1⟩ := id hu
  obtain ⟨A2, c2, rfl, h2⟩ := id hv
  have hc2 := hcap _ _ _ rfl
  by_cases hle : l.length ≤ m.length
  · have HE := Lib.hid (equal_ints hu (RowI.take hv l.length hle))
    have hb : begB l m = decide (l = m.take l.length) := by unfold begB; rw [decide_eq_true hle, Bool.true_and]
    rw [hb]
    have e2 : (m.take l.length).length = l.length := by rw [List.length_take]; omega
    rw [e2] at HE
    obtain ⟨n, hn⟩ : ∃ n, l.length = n := ⟨_, rfl⟩
    obtain ⟨k, hk⟩ : ∃ n, m.length = n := ⟨_, rfl⟩
    obtain ⟨bb, hbb⟩ : ∃ b, decide (l = m.take l.length) = b := ⟨_, rfl⟩
    rw [hbb] at HE ⊢
    rw [hn] at HE hle hl
    rw [hk] at hle hm hc2
    rw [hn, hk]
    clear hu hv hcap h1 h2 hb e2 hn hk hbb
    go_enter Try.func64, Try.ntmps64
    go_wp2_with fail
    refine HE.out.mono ?_
    rintro e w1 ⟨rfl, q, rfl⟩
    go_wp2
    go_ret
    exact ⟨rfl, q, rfl⟩
  · have hb : begB l m = false := by unfold begB; rw [decide_eq_false hle, Bool.false_and]
    rw [hb]
    obtain ⟨n, hn⟩ : ∃ n, l.length = n := ⟨_, rfl⟩
    obtain ⟨k, hk⟩ : ∃ n, m.length = n := ⟨_, rfl⟩
    rw [hn, hk] at hle ⊢
    have hd : decide ((n : Int) ≤ k) = false := decide_eq_false (by omega)
    clear hu hv hcap h1 h2 hb hn hk
    go_enter Try.func64, Try.ntmps64
    go_wp2
    go_ret
    exact ⟨rfl, 0, rfl⟩
theorem isNaN_any (w : World) (x : Int) : Calls Try.prog 71 #[.int .i64 x] w fun e w' => e = .returned (.bool false) ∧ w = w' := by
  go_enter Try.func71, Try.ntmps71
  go_wp2
  go_ret
  exact ⟨by simp, rfl⟩
def cmpI (x y : Int) : Int := if x < y then -1 else if y < x then 1 else 0
theorem compare_any (w : World) (x y : Int) : Calls Try.prog 63 #[.int .i64 x, .int .i64 y] w fun e w' => e = .returned (.int .i64 (cmpI x y)) ∧ w = w' := by
  rcases Int.lt_trichotomy x y with h | h | h
  · have e1 : cmpI x y = -1 := by unfold cmpI; rw [if_pos h]
    rw [e1]
    clear e1
    go_enter Try.func63, Try.ntmps63
    go_wp2_with fail
    refine (isNaN_any _ _).mono ?_
    rintro e w1 ⟨rfl, rfl⟩
    go_wp2_with fail
    refine (isNaN_any _ _).mono ?_
    rintro e w1 ⟨rfl, rfl⟩
    go_wp2
    go_ret
    exact ⟨rfl, rfl⟩
  · subst h
    have e1 : cmpI x x = 0 := by unfold cmpI; rw [if_neg (by omega), if_neg (by omega)]
    rw [e1]
    clear e1
    go_enter Try.func63, Try.ntmps63
    go_wp2_with fail
    refine (isNaN_any _ _).mono ?_
    rintro e w1 ⟨rfl, rfl⟩
    go_wp2_with fail
    refine (isNaN_any _ _).mono ?_
    rintro e w1 ⟨rfl, rfl⟩
    go_wp2
    go_ret
    exact ⟨rfl, rfl⟩
  · have e1 : cmpI x y = 1 := by unfold cmpI; rw [if_neg (by omega), if_pos h]
    have hd : decide (x < y) = false := decide_eq_false (by omega)
    rw [e1]
    clear e1
    go_enter Try.func63, Try.ntmps63
    go_wp2_with fail
    refine (isNaN_any _ _).mono ?_
    rintro e w1 ⟨rfl, rfl⟩
    go_wp2_with fail
    refine (isNaN_any _ _).mono ?_
    rintro e w1 ⟨rfl, rfl⟩
    go_wp2
    go_ret
    exact ⟨rfl, rfl⟩
theorem use1_any (w : World) (x y : Int) (A u : Value) : Calls Try.prog 62 #[.agg #[.int .i64 x, A, u], .int .i64 y] w fun e w' => e = .returned (.int .i64 (cmpI x y)) ∧ Below w.heap.size w w' := by
  go_enter Try.func62, Try.ntmps62
  go_wp2_with fail
  refine (compare_any _ _ _).mono ?_
  rintro e w1 ⟨rfl, rfl⟩
  go_wp2
  go_ret
  exact ⟨rfl, (Below.refl _ w).alloc (Nat.le_refl _) _⟩
/-- A block of whole numbers. -/
def IntB (w : World) (b : Nat) : Prop := ∃ cs f, w.heap[b]? = some (.cells cs 3 f)
/-- A path: a row that lies in a block of whole numbers. -/
def PathAt (w : World) (A : Option Addr) (l : List Int) : Prop := ListAt w 1 IntAt A l ∧ (0 < l.length → ∃ a, A = some a ∧ IntB w a.block)
/-- A right. -/
structure Hd where
  tag : Int
  path : List Int
  uniq : Bool
def HdAt (w : World) (h : Hd) (cs : List Value) : Prop := ∃ A c, cs = [.int .i64 h.tag, .slice A h.path.length c, .bool h.uniq] ∧ h.path.length ≤ c ∧ PathAt w A h.path
/-- Where a Tag is, or would be. -/
def Srch (S : List Hd) (t : Int) (p : Nat) (b : Bool) : Prop := p ≤ S.length ∧ (∀ k (h : k < S.length), k < p → S[k].tag < t) ∧ (∀ k (h : k < S.length), p ≤ k → t ≤ S[k].tag) ∧ (b = true ↔ ∃ h : p < S.length, S[p].tag = t)
theorem search_any {w : World} {A : Option Addr} {c : Nat} {S : List Hd} (h : ListAt w 3 (HdAt w) A S) (hl : S.length ≤ 1000) (hs : ∀ i j (hi : i < S.length) (hj : j < S.length), i ≤ j → S[i].tag ≤ S[j].tag) (t : Int) :
    Calls Try.prog 61 #[.slice A S.length c, .int .i64 t, .func (.func 62) #[] #[]] w fun e w' =>
      ∃ p b, e = .returned (.tuple #[.int .i64 ((p : Nat) : Int), .bool b]) ∧ Srch S t p b ∧ Below w.heap.size w w' := by
  have HL := Lib.hid h
  have HS := Lib.hid hs
  obtain ⟨n, hn⟩ : ∃ n, S.length = n := ⟨_, rfl⟩
  have HN := Lib.hid hn
  rw [hn] at hl ⊢
  clear h hs hn
  go_enter Try.func61, Try.ntmps61
  go_wp2
  go_loopw [9, 10] (fun i j wr => ∃ a b : Nat, a ≤ b ∧ b ≤ n ∧ i = .int .i64 a ∧ j = .int .i64 b ∧ Hid (Below w.heap.size w wr) ∧ Hid ((∀ k (h : k < S.length), k < a → S[k].tag < t) ∧ (∀ k (h : k < S.length), b ≤ k → t ≤ S[k].tag))) (fun i j _ => (intOf j).toNat - (intOf i).toNat)
  case atStart => exact ⟨0, n, Nat.zero_le _, Nat.le_refl _, rfl, rfl, Below.refl _ _, fun k _ h => absurd h (Nat.not_lt_zero _), fun k h h' => absurd h (by have := HN.out; omega)⟩
  case round =>
    obtain ⟨a, b, hab, hbn, rfl, rfl, HB, HT⟩ := hrel
    by_cases hlt : a < b
    · obtain ⟨m, hm⟩ : ∃ m, (a + b) / 2 = m := ⟨_, rfl⟩
      have hmb : m < b := by omega
      have ham : a ≤ m := by omega
      have hmi : ((a : Int) + (b : Int)) / 2 = (m : Int) := by omega
      have hmS : m < S.length := by rw [HN.out]; omega
      obtain ⟨bk, o, cs, rfl, hlt2, _, hsx, hc⟩ := HL.out.get (by decide) hmS
      obtain ⟨hd, hhd⟩ : ∃ x, S[m] = x := ⟨_, rfl⟩
      rw [hhd] at hsx
      obtain ⟨A', c', rfl, _⟩ := hsx
      obtain ⟨tag, path, uq⟩ := hd
      obtain ⟨lp, hlp⟩ : ∃ x, path.length = x := ⟨_, rfl⟩
      have x0 := (HB.out.cell (p := ⟨bk, o + m * 3 + 0, none⟩) hlt2).trans (hc 0 _ rfl)
      have x1 := (HB.out.cell (p := ⟨bk, o + m * 3 + 1, none⟩) hlt2).trans (hc 1 _ rfl)
      have x2 := (HB.out.cell (p := ⟨bk, o + m * 3 + 2, none⟩) hlt2).trans (hc 2 _ rfl)
      simp only [Nat.add_zero] at x0
      simp only [hlp] at x1
      have HTG : Hid (S[m].tag = tag) := by show S[m].tag = tag; rw [hhd]
      clear hc hlt2 hhd hlp
      by_cases hct : tag < t
      · have hcm : cmpI tag t = -1 := by unfold cmpI; rw [if_pos hct]
        have HT2 : Hid ((∀ k (h : k < S.length), k < m + 1 → S[k].tag < t) ∧ (∀ k (h : k < S.length), b ≤ k → t ≤ S[k].tag)) := by
          refine ⟨fun k hk hkm => ?_, HT.out.2⟩
          have := HS.out k m hk hmS (by omega)
          rw [HTG.out] at this
          omega
        clear HT HTG hmS hm
        go_wp2_with fail
        refine (use1_any _ _ _ _ _).mono ?_
        rintro e w1 ⟨rfl, q1⟩
        rw [hcm]
        have HB2 : Hid (Below w.heap.size w w1) := HB.out.trans (q1.mono HB.out.size)
        clear q1 x0 x1 x2 HB
        go_wp2
        go_roundw
        case rel => exact ⟨m + 1, b, by omega, hbn, by go_num, rfl, HB2, HT2⟩
        case measure => simp [intOf]; omega
      · have hcm : 0 ≤ cmpI tag t := by unfold cmpI; rw [if_neg hct]; split <;> omega
        obtain ⟨cv, hcv⟩ : ∃ x, cmpI tag t = x := ⟨_, rfl⟩
        rw [hcv] at hcm
        have hd : decide (cv < 0) = false := decide_eq_false (by omega)
        have HT2 : Hid ((∀ k (h : k < S.length), k < a → S[k].tag < t) ∧ (∀ k (h : k < S.length), m ≤ k → t ≤ S[k].tag)) := by
          refine ⟨HT.out.1, fun k hk hkm => ?_⟩
          have := HS.out m k hmS hk hkm
          rw [HTG.out] at this
          omega
        clear HT HTG hmS hm
        go_wp2_with fail
        refine (use1_any _ _ _ _ _).mono ?_
        rintro e w1 ⟨rfl, q1⟩
        rw [hcv]
        have HB2 : Hid (Below w.heap.size w w1) := HB.out.trans (q1.mono HB.out.size)
        clear q1 x0 x1 x2 HB hcv
        go_wp2
        go_roundw
        case rel => exact ⟨a, m, by omega, by omega, rfl, rfl, HB2, HT2⟩
        case measure => simp [intOf]; omega
    · have hab2 : a = b := by omega
      subst hab2
      by_cases han : a < n
      · have haS : a < S.length := by rw [HN.out]; omega
        obtain ⟨bk, o, cs, rfl, hlt2, _, hsx, hc⟩ := HL.out.get (by decide) haS
        obtain ⟨hd, hhd⟩ : ∃ x, S[a] = x := ⟨_, rfl⟩
        rw [hhd] at hsx
        obtain ⟨A', c', rfl, _⟩ := hsx
        obtain ⟨tag, path, uq⟩ := hd
        obtain ⟨lp, hlp⟩ : ∃ x, path.length = x := ⟨_, rfl⟩
        have x0 := (HB.out.cell (p := ⟨bk, o + a * 3 + 0, none⟩) hlt2).trans (hc 0 _ rfl)
        have x1 := (HB.out.cell (p := ⟨bk, o + a * 3 + 1, none⟩) hlt2).trans (hc 1 _ rfl)
        have x2 := (HB.out.cell (p := ⟨bk, o + a * 3 + 2, none⟩) hlt2).trans (hc 2 _ rfl)
        simp only [Nat.add_zero] at x0
        simp only [hlp] at x1
        have hta : t ≤ tag := by have := HT.out.2 a haS (Nat.le_refl _); rw [hhd] at this; exact this
        have HF : Hid (∀ bb : Bool, bb = decide (tag = t) → Srch S t a bb) := by
          rintro bb rfl
          refine ⟨by rw [HN.out]; omega, HT.out.1, HT.out.2, ?_⟩
          rw [decide_eq_true_iff]
          exact ⟨fun e => ⟨haS, by rw [hhd]; exact e⟩, fun ⟨_, e⟩ => by rw [hhd] at e; exact e⟩
        have hcm : (cmpI tag t == 0) = decide (tag = t) := by
          unfold cmpI
          rw [if_neg (by omega)]
          by_cases e : tag = t
          · subst e; simp
          · rw [if_pos (by omega), decide_eq_false e]; rfl
        obtain ⟨cv, hcv⟩ : ∃ x, cmpI tag t = x := ⟨_, rfl⟩
        obtain ⟨bb, hbb⟩ : ∃ x, decide (tag = t) = x := ⟨_, rfl⟩
        have HF2 := Lib.hid (HF.out bb hbb.symm)
        rw [hcv, hbb] at hcm
        clear hc hlt2 hhd hlp haS HT HF hbb hta
        go_wp2_with fail
        refine (use1_any _ _ _ _ _).mono ?_
        rintro e w1 ⟨rfl, q1⟩
        rw [hcv]
        have HB2 : Hid (Below w.heap.size w w1) := HB.out.trans (q1.mono HB.out.size)
        clear q1 x0 x1 x2 HB hcv
        go_wp2
        refine bodyPost_ret (v := .tuple #[.int .i64 a, .bool bb]) (by simp [results, Try.results61]) rfl ⟨a, bb, rfl, HF2.out, HB2.out⟩
      · have hae : a = n := by omega
        subst hae
        have HF2 : Hid (Srch S t a false) := ⟨by rw [HN.out]; exact Nat.le_refl _, HT.out.1, HT.out.2, by simp [HN.out]⟩
        clear HT
        go_wp2
        refine bodyPost_ret (v := .tuple #[.int .i64 a, .bool false]) (by simp [results, Try.results61]) rfl ⟨a, false, rfl, HF2.out, HB.out⟩
end Hp
end Go.Proofs.Ytbhjdpaicfnfcaa
