/- Layer 7: which types are the same, but for regions. -/
import Derived.Test.YtiljpnghahkjhaaDoorTypesR
namespace Go.Proofs.YtiljpnghahkjhaaDoor
open Go.RowKit Go.Deep Tr
namespace Ts
theorem str_ext {a b : ByteArray} (h : a.toList = b.toList) : a = b := by
  rw [ByteArray.toList_eq, ByteArray.toList_eq] at h
  exact ByteArray.ext (Array.toList_inj.1 h)
theorem head_false {k k' : Int} {nm nm' : ByteArray} {u u' : Bool} {n n' : Nat} (h : ¬(k = k' ∧ nm = nm' ∧ u = u' ∧ (k = 5 → n = n'))) : headP k nm u n k' nm' u' n' = false := by
  rw [headP, decide_eq_false_iff_not]
  exact h
set_option maxHeartbeats 8000000 in
set_option maxRecDepth 100000 in
theorem same_step (n : Nat) (HE : Hid (EqfS n)) : SameS (n + 1) := by
  rintro ⟨k, nm, u, r, rs, ar⟩ ⟨k', nm', u', r', rs', ar'⟩ cs ds m W h h'
  cases m with
  | zero => exact h'.elim
  | succ m =>
  obtain ⟨R, cr, A, ca, rfl, ⟨h0, h1⟩, h2⟩ := h
  obtain ⟨R', cr', A', ca', rfl, ⟨h0', h1'⟩, h2'⟩ := h'
  obtain ⟨res, hres⟩ : ∃ b, sameP (.mk k nm u r rs ar) (.mk k' nm' u' r' rs' ar') = b := ⟨_, rfl⟩
  rw [hres]
  rw [sameP] at hres
  obtain ⟨o1, ho1⟩ : ∃ o, Obj.cells #[.int .i64 k, .string nm, .bool u, .int .i64 r, .slice R rs.length cr, .slice A ar.length ca] 25 = o := ⟨_, rfl⟩
  obtain ⟨o2, ho2⟩ : ∃ o, Obj.cells #[.int .i64 k', .string nm', .bool u', .int .i64 r', .slice R' rs'.length cr', .slice A' ar'.length ca'] 25 = o := ⟨_, rfl⟩
  have B2 : Below W.heap.size W ((W.alloc o1).alloc o2) := ((Below.refl _ W).alloc (Nat.le_refl _) o1).alloc (by simp) o2
  have HE1 := Lib.hid (HE.out ar ar' A A' ca ca' m ((W.alloc o1).alloc o2) (h2.below B2 fun x _ cs h => TyAt.below B2 _ x cs h) (h2'.below B2 fun x _ cs h => TyAt.below B2 _ x cs h))
  obtain ⟨V, hV⟩ : ∃ V, (W.alloc o1).alloc o2 = V := ⟨_, rfl⟩
  obtain ⟨sl, hsl⟩ : ∃ b, sameL ar ar' = b := ⟨_, rfl⟩
  rw [hV] at B2 HE1
  rw [hsl] at HE1 hres
  obtain ⟨lr, hlr⟩ : ∃ n, rs.length = n := ⟨_, rfl⟩
  obtain ⟨lr', hlr'⟩ : ∃ n, rs'.length = n := ⟨_, rfl⟩
  obtain ⟨la, hla⟩ : ∃ n, ar.length = n := ⟨_, rfl⟩
  obtain ⟨la', hla'⟩ : ∃ n, ar'.length = n := ⟨_, rfl⟩
  rw [hlr, hla] at ho1
  rw [hlr', hla'] at ho2
  rw [hlr, hlr'] at hres
  rw [hla, hla'] at HE1
  rw [hlr, hla, hlr', hla']
  have HV : Hid ((W.alloc (.cells #[.int .i64 k, .string nm, .bool u, .int .i64 r, .slice R lr cr, .slice A la ca] 25)).alloc (.cells #[.int .i64 k', .string nm', .bool u', .int .i64 r', .slice R' lr' cr', .slice A' la' ca'] 25) = V) := by rw [← hV, ← ho1, ← ho2]; exact rfl
  have HB := Lib.hid B2
  have HRES := Lib.hid hres
  clear h0 h1 h2 h0' h1' h2' hres ho1 ho2 B2 hV hsl hlr hlr' hla hla'
  by_cases hk : k = k'
  · subst hk
    by_cases hn : nm = nm'
    · subst hn
      by_cases hu : u = u'
      · subst hu
        by_cases h5 : k = 5
        · subst h5
          by_cases hl : lr = lr'
          · subst hl
            have hr : res = sl := by rw [← HRES.out, headP, decide_eq_true (by simp), Bool.true_and]
            subst hr
            clear HRES
            go_enter Tryd.func18, Tryd.ntmps18
            go_wp2_with fail
            rw [HV.out]
            refine HE1.out.mono ?_
            rintro e W2 ⟨rfl, b2⟩
            have B2 : Hid (Below W.heap.size W W2) := HB.out.trans (b2.mono HB.out.size)
            clear b2 HE1 HV HB
            go_wp2
            go_ret
            exact ⟨rfl, B2.out⟩
          · have hr : res = false := by rw [← HRES.out, head_false (by simpa using hl), Bool.false_and]
            have hl2 : (lr : Int) ≠ (lr' : Int) := by omega
            subst hr
            clear HRES hl
            go_enter Tryd.func18, Tryd.ntmps18
            go_wp2
            all_goals
              rw [HV.out]
              go_ret
              exact ⟨rfl, HB.out⟩
        · have hr : res = sl := by rw [← HRES.out, headP, decide_eq_true ⟨rfl, rfl, rfl, fun e => absurd e h5⟩, Bool.true_and]
          subst hr
          clear HRES
          go_enter Tryd.func18, Tryd.ntmps18
          go_wp2_with fail
          rw [HV.out]
          refine HE1.out.mono ?_
          rintro e W2 ⟨rfl, b2⟩
          have B2 : Hid (Below W.heap.size W W2) := HB.out.trans (b2.mono HB.out.size)
          clear b2 HE1 HV HB
          go_wp2
          go_ret
          exact ⟨rfl, B2.out⟩
      · have hr : res = false := by rw [← HRES.out, head_false (fun h => hu h.2.2.1), Bool.false_and]
        have eu : (u == u') = false := by cases u <;> cases u' <;> simp_all
        have eu2 : (!u == u') = true := by rw [eu]; rfl
        subst hr
        clear HRES
        go_enter Tryd.func18, Tryd.ntmps18
        go_wp2
        all_goals
          rw [HV.out]
          go_ret
          exact ⟨rfl, HB.out⟩
    · have hr : res = false := by rw [← HRES.out, head_false (fun h => hn h.2.1), Bool.false_and]
      have en : ¬ nm.toList = nm'.toList := fun e => hn (str_ext e)
      subst hr
      clear HRES
      go_enter Tryd.func18, Tryd.ntmps18
      go_wp2
      all_goals
        rw [HV.out]
        go_ret
        exact ⟨rfl, HB.out⟩
  · have hr : res = false := by rw [← HRES.out, head_false (fun h => hk h.1), Bool.false_and]
    subst hr
    clear HRES
    go_enter Tryd.func18, Tryd.ntmps18
    go_wp2
    all_goals
      rw [HV.out]
      go_ret
      exact ⟨rfl, HB.out⟩
theorem eqf_same (n : Nat) : SameS n ∧ EqfS n := by
  induction n with
  | zero => exact ⟨fun _ _ _ _ _ _ h _ => h.elim, eqf_step 0 (Lib.hid fun _ _ _ _ _ _ h _ => h.elim)⟩
  | succ n ih => exact ⟨same_step n (Lib.hid ih.2), eqf_step (n + 1) (Lib.hid (same_step n (Lib.hid ih.2)))⟩
theorem same_any (n : Nat) : SameS n := (eqf_same n).1
end Ts
end Go.Proofs.YtiljpnghahkjhaaDoor
