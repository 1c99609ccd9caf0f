/- Are all numbers of lists from 0 to below n: below. -/
import Derived.Test.YtbeepedobnaojaaDoorFlowE
namespace Go.Proofs.YtbeepedobnaojaaDoor
open Go.RowKit Lf Go.Deep Sv Tr
namespace Fl
/-- The bound lies in its variable. -/
def BdAt (w : World) (b : Nat) (m : Int) : Prop := Is w b 3 #[.int .i64 m]
theorem out1 {w : World} {b : Nat} {m : Int} (h : BdAt w b m) (x : Int) :
    Calls Tryd.prog 41 #[.int .i64 x, .pointer (some ⟨b, 0, none⟩)] w fun e w' => e = .returned (.bool (!(decide (0 ≤ x) && decide (x < m)))) ∧ w = w' := by
  have c0 := h.at_ 0
  simp only [List.getElem?_toArray, List.getElem?_cons_zero] at c0
  clear h
  by_cases h0 : 0 ≤ x
  · have e : (!(decide (0 ≤ x) && decide (x < m))) = decide (m ≤ x) := by
      rw [decide_eq_true h0, Bool.true_and, Bool.eq_iff_iff]; simp
    have hd : decide (x < 0) = false := decide_eq_false (by omega)
    rw [e]
    go_enter Tryd.func41, Tryd.ntmps41
    go_wp2
    go_ret
    exact ⟨rfl, rfl⟩
  · have e : (!(decide (0 ≤ x) && decide (x < m))) = true := by rw [decide_eq_false h0]; rfl
    have hd : decide (x < 0) = true := decide_eq_true (by omega)
    rw [e]
    go_enter Tryd.func41, Tryd.ntmps41
    go_wp2
    go_ret
    exact ⟨rfl, rfl⟩
def f1 (b : Nat) : Value := .func (.func 41) #[] #[.pointer (some ⟨b, 0, none⟩)]
def f2 (b : Nat) : Value := .func (.func 39) #[] #[.pointer (some ⟨b, 0, none⟩)]
/-- The first that isn't below. -/
def Fst1 (m : Int) (l : List Int) (x : Int) : Prop := (x = -1 ∧ rowOk m l = true) ∨ (0 ≤ x ∧ rowOk m l = false)
theorem index1 {w : World} {b : Nat} {m : Int} (hE : BdAt w b m) {v : Value} {l : List Int} (h : RowI w v l) :
    Calls Tryd.prog 44 #[v, f1 b] w fun e w' => ∃ x, e = .returned (.int .i64 x) ∧ Fst1 m l x ∧ w = w' := by
  obtain ⟨A, c, rfl, hmax, hget⟩ := rowI_form h
  have HG := Lib.hid hget
  have HE := Lib.hid hE
  obtain ⟨n, hn⟩ : ∃ n, l.length = n := ⟨_, rfl⟩
  have HN := Lib.hid hn
  rw [hn] at hmax ⊢
  unfold maxLen at hmax
  clear h hE hn hget
  unfold f1
  go_enter Tryd.func44, Tryd.ntmps44
  go_wp2
  go_loopw [8] (fun i wr' => ∃ a : Nat, a ≤ n ∧ i = .int .i64 a ∧ wr' = w ∧ Hid (∀ k (h : k < l.length), k < a → (decide (0 ≤ l[k]) && decide (l[k] < m)) = true)) (fun i _ => n - (intOf i).toNat)
  case atStart => exact ⟨0, Nat.zero_le _, rfl, rfl, fun k _ h => absurd h (Nat.not_lt_zero _)⟩
  case round =>
    obtain ⟨a, han, rfl, rfl, HT⟩ := hrel
    by_cases hlt : a < n
    · have hal : a < l.length := by rw [HN.out]; omega
      obtain ⟨bk, o, rfl, hbk, hc⟩ := HG.out a hal
      obtain ⟨x, hx⟩ : ∃ x, l[a] = x := ⟨_, rfl⟩
      rw [hx] at hc
      have hU := out1 HE.out x
      obtain ⟨bb, hbb⟩ : ∃ bb, (decide (0 ≤ x) && decide (x < m)) = bb := ⟨_, rfl⟩
      have HX : Hid ((decide (0 ≤ l[a]) && decide (l[a] < m)) = bb) := by show _ = _; rw [hx]; exact hbb
      rw [hbb] at hU
      have HU := Lib.hid hU
      clear hx hU hbb
      go_wp2_with fail
      refine HU.out.mono ?_
      rintro e w1 ⟨rfl, rfl⟩
      cases bb with
      | false =>
        have HF : Hid (Fst1 m l (a : Int)) := .inr ⟨by omega, by
          cases hq : rowOk m l with
          | false => rfl
          | true =>
            have := List.all_eq_true.1 hq _ (List.getElem_mem hal)
            rw [HX.out] at this
            cases this⟩
        clear HT HX hal HU
        go_wp2
        go_ret
        exact ⟨_, rfl, HF.out, rfl⟩
      | true =>
        have HT2 : Hid (∀ k (h : k < l.length), k < a + 1 → (decide (0 ≤ l[k]) && decide (l[k] < m)) = true) := fun k hk hka => by
          by_cases e : k = a
          · subst e; exact HX.out
          · exact HT.out k hk (by omega)
        clear HT HX hal HU
        go_wp2
        go_roundw
        case rel => exact ⟨a + 1, by omega, by go_num, trivial, HT2⟩
        case measure => simp [intOf]; omega
    · have hae : a = n := by omega
      subst hae
      have HF : Hid (Fst1 m l (-1)) := .inl ⟨rfl, List.all_eq_true.2 fun y hy => by
        obtain ⟨q, hq, rfl⟩ := List.getElem_of_mem hy
        exact HT.out q hq (by rw [← HN.out]; exact hq)⟩
      clear HT
      go_wp2
      go_ret
      exact ⟨_, rfl, HF.out, rfl⟩
theorem contains1 {w : World} {b : Nat} {m : Int} (hE : BdAt w b m) {v : Value} {l : List Int} (h : RowI w v l) :
    Calls Tryd.prog 40 #[v, f1 b] w fun e w' => e = .returned (.bool (!rowOk m l)) ∧ w = w' := by
  have HX := Lib.hid (index1 hE h)
  clear hE h
  unfold f1 at HX ⊢
  go_enter Tryd.func40, Tryd.ntmps40
  go_wp2_with fail
  refine HX.out.mono ?_
  rintro e w1 ⟨x, rfl, hf, rfl⟩
  have hx : decide (0 ≤ x) = !rowOk m l := by
    rcases hf with ⟨rfl, h⟩ | ⟨h1, h2⟩
    · rw [h]; rfl
    · rw [h2, decide_eq_true h1]; rfl
  clear hf
  go_wp2
  go_ret
  exact ⟨rfl, rfl⟩
theorem below1 {w : World} {b : Nat} {m : Int} (hE : BdAt w b m) {v : Value} {l : List Int} (h : RowI w v l) :
    Calls Tryd.prog 39 #[v, .pointer (some ⟨b, 0, none⟩)] w fun e w' => e = .returned (.bool (!rowOk m l)) ∧ w = w' := by
  have HX := Lib.hid (contains1 hE h)
  clear hE h
  unfold f1 at HX
  go_enter Tryd.func39, Tryd.ntmps39
  go_wp2_with fail
  refine HX.out.mono ?_
  rintro e w1 ⟨rfl, rfl⟩
  go_wp2
  go_ret
  exact ⟨rfl, rfl⟩
def Fst2 (m : Int) (ls : Ls) (x : Int) : Prop := (x = -1 ∧ lsOk m ls = true) ∨ (0 ≤ x ∧ lsOk m ls = false)
theorem index2 {w : World} {b : Nat} {m : Int} (hE : BdAt w b m) {v : Value} {l : Ls} (h : LsAt w v l) :
    Calls Tryd.prog 43 #[v, f2 b] w fun e w' => ∃ x, e = .returned (.int .i64 x) ∧ Fst2 m l x ∧ w = w' := by
  obtain ⟨A, c, rfl, hmax, hget⟩ := h.form
  have HG := Lib.hid hget
  have HE := Lib.hid hE
  obtain ⟨n, hn⟩ : ∃ n, l.length = n := ⟨_, rfl⟩
  have HN := Lib.hid hn
  rw [hn] at hmax ⊢
  unfold maxLen at hmax
  clear h hE hn hget
  unfold f2
  go_enter Tryd.func43, Tryd.ntmps43
  go_wp2
  go_loopw [8] (fun i wr' => ∃ a : Nat, a ≤ n ∧ i = .int .i64 a ∧ wr' = w ∧ Hid (∀ k (h : k < l.length), k < a → rowOk m l[k] = true)) (fun i _ => n - (intOf i).toNat)
  case atStart => exact ⟨0, Nat.zero_le _, rfl, rfl, fun k _ h => absurd h (Nat.not_lt_zero _)⟩
  case round =>
    obtain ⟨a, han, rfl, rfl, HT⟩ := hrel
    by_cases hlt : a < n
    · have hal : a < l.length := by rw [HN.out]; omega
      obtain ⟨bk, o, u, rfl, hbk, hc, hrow⟩ := HG.out a hal
      obtain ⟨bb, hbb⟩ : ∃ bb, rowOk m l[a] = bb := ⟨_, rfl⟩
      have HX := Lib.hid hbb
      have hU := below1 HE.out hrow
      rw [hbb] at hU
      have HU := Lib.hid hU
      clear hrow hU hbb
      go_wp2_with fail
      refine HU.out.mono ?_
      rintro e w1 ⟨rfl, rfl⟩
      cases bb with
      | false =>
        have HF : Hid (Fst2 m l (a : Int)) := .inr ⟨by omega, by
          cases hq : lsOk m l with
          | false => rfl
          | true =>
            have := List.all_eq_true.1 hq _ (List.getElem_mem hal)
            rw [HX.out] at this
            cases this⟩
        clear HT HX hal HU
        go_wp2
        go_ret
        exact ⟨_, rfl, HF.out, rfl⟩
      | true =>
        have HT2 : Hid (∀ k (h : k < l.length), k < a + 1 → rowOk m l[k] = true) := fun k hk hka => by
          by_cases e : k = a
          · subst e; exact HX.out
          · exact HT.out k hk (by omega)
        clear HT HX hal HU
        go_wp2
        go_roundw
        case rel => exact ⟨a + 1, by omega, by go_num, trivial, HT2⟩
        case measure => simp [intOf]; omega
    · have hae : a = n := by omega
      subst hae
      have HF : Hid (Fst2 m l (-1)) := .inl ⟨rfl, List.all_eq_true.2 fun y hy => by
        obtain ⟨q, hq, rfl⟩ := List.getElem_of_mem hy
        exact HT.out q hq (by rw [← HN.out]; exact hq)⟩
      clear HT
      go_wp2
      go_ret
      exact ⟨_, rfl, HF.out, rfl⟩
theorem contains2 {w : World} {b : Nat} {m : Int} (hE : BdAt w b m) {v : Value} {l : Ls} (h : LsAt w v l) :
    Calls Tryd.prog 38 #[v, f2 b] w fun e w' => e = .returned (.bool (!lsOk m l)) ∧ w = w' := by
  have HX := Lib.hid (index2 hE h)
  clear hE h
  unfold f2 at HX ⊢
  go_enter Tryd.func38, Tryd.ntmps38
  go_wp2_with fail
  refine HX.out.mono ?_
  rintro e w1 ⟨x, rfl, hf, rfl⟩
  have hx : decide (0 ≤ x) = !lsOk m l := by
    rcases hf with ⟨rfl, h⟩ | ⟨h1, h2⟩
    · rw [h]; rfl
    · rw [h2, decide_eq_true h1]; rfl
  clear hf
  go_wp2
  go_ret
  exact ⟨rfl, rfl⟩
theorem below_any {w : World} {m : Int} {v : Value} {l : Ls} (h : LsAt w v l) :
    Calls Tryd.prog 30 #[.int .i64 m, v] w fun e w' => e = .returned (.bool (lsOk m l)) ∧ w' = w.alloc (.cells #[.int .i64 m] 3) := by
  have HX := Lib.hid (contains2 (show BdAt (w.alloc (.cells #[.int .i64 m] 3)) w.heap.size m from Is.made _ _ _) (h.below ((Below.refl _ _).alloc (Nat.le_refl _) _)))
  clear h
  unfold f2 at HX
  go_enter Tryd.func30, Tryd.ntmps30
  go_wp2_with fail
  refine HX.out.mono ?_
  rintro e w1 ⟨rfl, rfl⟩
  go_wp2
  go_ret
  exact ⟨rfl, rfl⟩
end Fl
end Go.Proofs.YtbeepedobnaojaaDoor
