/- Layer 7: which types are the same, with their regions. -/
import Derived.Test.YtiljpnghahkjhaaDoorTypesD
import Derived.Test.YtiljpnghahkjhaaDoorTypesV
namespace Go.Proofs.YtiljpnghahkjhaaDoor
open Go.RowKit Go.Deep Tr
namespace Ts
theorem rsame_any : ∀ n, RSameS n
  | 0 => fun _ _ _ _ _ _ h _ => h.elim
  | n + 1 => rsame_step n (Lib.hid (rsame_any n))
def equalP (x y : Ty) : Bool := sameP x y && decide (allP x = allP y)
set_option maxHeartbeats 8000000 in
set_option maxRecDepth 100000 in
theorem equal_any {n m : Nat} {x y : Ty} {cs ds : List Value} {W : World} (h : TyAt W n x cs) (h' : TyAt W m y ds) (hb : (allP x).length ≤ Big) (hb' : (allP y).length ≤ Big) :
    Calls Tryd.prog 19 #[.agg cs.toArray, .agg ds.toArray] W fun e W' => e = .returned (.bool (equalP x y)) ∧ Below W.heap.size W W' := by
  obtain ⟨k, nm, u, r, R, lr, cr, A, la, ca, rfl⟩ := h.shape
  obtain ⟨k', nm', u', r', R', lr', cr', A', la', ca', rfl⟩ := h'.shape
  obtain ⟨o1, ho1⟩ : ∃ o, Obj.cells #[.int .i64 k, .string nm, .bool u, .int .i64 r, .slice R lr cr, .slice A la ca] 25 = o := ⟨_, rfl⟩
  obtain ⟨o2, ho2⟩ : ∃ o, Obj.cells #[.int .i64 k', .string nm', .bool u', .int .i64 r', .slice R' lr' cr', .slice A' la' ca'] 25 = o := ⟨_, rfl⟩
  have B2 : Below W.heap.size W ((W.alloc o1).alloc o2) := ((Below.refl _ W).alloc (Nat.le_refl _) o1).alloc (by simp) o2
  have i1 : Is ((W.alloc o1).alloc o2) W.heap.size 25 #[.int .i64 k, .string nm, .bool u, .int .i64 r, .slice R lr cr, .slice A la ca] := by rw [← ho1]; exact (Is.made W _ _).alloc _
  have hN : (W.alloc o1).heap.size = W.heap.size + 1 := by simp
  have i2 : Is ((W.alloc o1).alloc o2) (W.heap.size + 1) 25 #[.int .i64 k', .string nm', .bool u', .int .i64 r', .slice R' lr' cr', .slice A' la' ca'] := by rw [← ho2]; exact hN ▸ Is.made (W.alloc o1) _ _
  obtain ⟨V, hV⟩ : ∃ V, (W.alloc o1).alloc o2 = V := ⟨_, rfl⟩
  rw [hV] at B2 i1 i2
  have HV : Hid ((W.alloc (.cells #[.int .i64 k, .string nm, .bool u, .int .i64 r, .slice R lr cr, .slice A la ca] 25)).alloc (.cells #[.int .i64 k', .string nm', .bool u', .int .i64 r', .slice R' lr' cr', .slice A' la' ca'] 25) = V) := by rw [← hV, ← ho1, ← ho2]; exact rfl
  obtain ⟨sv, hsv⟩ : ∃ b, sameP x y = b := ⟨_, rfl⟩
  obtain ⟨dv, hdv⟩ : ∃ b, decide (allP x = allP y) = b := ⟨_, rfl⟩
  have HS : Hid (∀ X, Below V.heap.size V X → Calls Tryd.prog 18 #[.agg #[.int .i64 k, .string nm, .bool u, .int .i64 r, .slice R lr cr, .slice A la ca], .agg #[.int .i64 k', .string nm', .bool u', .int .i64 r', .slice R' lr' cr', .slice A' la' ca']] X fun e W' => e = .returned (.bool sv) ∧ Below X.heap.size X W') := by
    intro X hX
    have hWX := B2.trans (hX.mono B2.size)
    have := same_any n x y _ _ m X (TyAt.below hWX _ _ _ h) (TyAt.below hWX _ _ _ h')
    rw [hsv] at this
    exact this
  have HA : Hid (∀ X, Below V.heap.size V X → Calls Tryd.prog 26 #[.agg #[.int .i64 k, .string nm, .bool u, .int .i64 r, .slice R lr cr, .slice A la ca]] X fun e W' => ∃ v, e = .returned v ∧ RowI W' v (allP x) ∧ Below X.heap.size X W') := by
    intro X hX
    exact (all_any (TyAt.below (B2.trans (hX.mono B2.size)) _ _ _ h) hb).mono fun e w' ⟨v, h1, h2, h3, _⟩ => ⟨v, h1, h2, h3⟩
  have HA' : Hid (∀ X, Below V.heap.size V X → Calls Tryd.prog 26 #[.agg #[.int .i64 k', .string nm', .bool u', .int .i64 r', .slice R' lr' cr', .slice A' la' ca']] X fun e W' => ∃ v, e = .returned v ∧ RowI W' v (allP y) ∧ Below X.heap.size X W') := by
    intro X hX
    exact (all_any (TyAt.below (B2.trans (hX.mono B2.size)) _ _ _ h') hb').mono fun e w' ⟨v, h1, h2, h3, _⟩ => ⟨v, h1, h2, h3⟩
  have HI : Hid (∀ X va vb, RowI X va (allP x) → RowI X vb (allP y) → Calls Tryd.prog 36 #[va, vb] X fun e W' => e = .returned (.bool dv) ∧ ∃ q, X.drewN q = W') := by
    intro X va vb h1 h2
    have := equal_ints h1 h2
    rw [hdv] at this
    exact this
  have KC : Hid (∀ X, Below V.heap.size V X → (X.cell? ⟨W.heap.size, 0, none⟩ = some (.int .i64 k) ∧ X.cell? ⟨W.heap.size, 1, none⟩ = some (.string nm) ∧ X.cell? ⟨W.heap.size, 2, none⟩ = some (.bool u) ∧ X.cell? ⟨W.heap.size, 3, none⟩ = some (.int .i64 r) ∧ X.cell? ⟨W.heap.size, 4, none⟩ = some (.slice R lr cr) ∧ X.cell? ⟨W.heap.size, 5, none⟩ = some (.slice A la ca)) ∧
      (X.cell? ⟨W.heap.size + 1, 0, none⟩ = some (.int .i64 k') ∧ X.cell? ⟨W.heap.size + 1, 1, none⟩ = some (.string nm') ∧ X.cell? ⟨W.heap.size + 1, 2, none⟩ = some (.bool u') ∧ X.cell? ⟨W.heap.size + 1, 3, none⟩ = some (.int .i64 r') ∧ X.cell? ⟨W.heap.size + 1, 4, none⟩ = some (.slice R' lr' cr') ∧ X.cell? ⟨W.heap.size + 1, 5, none⟩ = some (.slice A' la' ca'))) := by
    intro X hX
    have j1 := i1.below hX i1.lt
    have j2 := i2.below hX i2.lt
    exact ⟨⟨j1.at_ 0, j1.at_ 1, j1.at_ 2, j1.at_ 3, j1.at_ 4, j1.at_ 5⟩, j2.at_ 0, j2.at_ 1, j2.at_ 2, j2.at_ 3, j2.at_ 4, j2.at_ 5⟩
  rw [equalP, hsv, hdv]
  have HB := Lib.hid B2
  have G0 := Lib.hid (below_drew (Below.refl V.heap.size V))
  clear h h' hb hb' ho1 ho2 B2 i1 i2 hN hV hsv hdv
  obtain ⟨⟨n0, n1, n2, n3, n4, n5⟩, p0, p1, p2, p3, p4, p5⟩ := KC.out V (Below.refl _ _)
  cases sv with
  | false =>
    rw [Bool.false_and]
    go_enter Tryd.func19, Tryd.ntmps19
    go_wp2_with fail
    rw [HV.out]
    go_region_law
      (first
        | (go_simp; go_at_call 18; refine (HS.out _ G0.out).mono ?_; rintro e w1 ⟨rfl, b1⟩; have G1 := Lib.hid (G0.out.trans (b1.mono G0.out.size)); clear b1))
    all_goals
      go_wp2
      go_ret
      exact ⟨rfl, HB.out.trans (G1.out.mono HB.out.size)⟩
  | true =>
    rw [Bool.true_and]
    go_enter Tryd.func19, Tryd.ntmps19
    go_wp2_with fail
    rw [HV.out]
    go_region_held3 (fun X => (X.cell? ⟨W.heap.size, 0, none⟩ = some (.int .i64 k) ∧ X.cell? ⟨W.heap.size, 1, none⟩ = some (.string nm) ∧ X.cell? ⟨W.heap.size, 2, none⟩ = some (.bool u) ∧ X.cell? ⟨W.heap.size, 3, none⟩ = some (.int .i64 r) ∧ X.cell? ⟨W.heap.size, 4, none⟩ = some (.slice R lr cr) ∧ X.cell? ⟨W.heap.size, 5, none⟩ = some (.slice A la ca)) ∧
      (X.cell? ⟨W.heap.size + 1, 0, none⟩ = some (.int .i64 k') ∧ X.cell? ⟨W.heap.size + 1, 1, none⟩ = some (.string nm') ∧ X.cell? ⟨W.heap.size + 1, 2, none⟩ = some (.bool u') ∧ X.cell? ⟨W.heap.size + 1, 3, none⟩ = some (.int .i64 r') ∧ X.cell? ⟨W.heap.size + 1, 4, none⟩ = some (.slice R' lr' cr') ∧ X.cell? ⟨W.heap.size + 1, 5, none⟩ = some (.slice A' la' ca')))
      (first
        | exact KC.out _ G4.out
        | exact KC.out _ G3.out
        | exact KC.out _ G2.out
        | exact KC.out _ G1.out
        | exact KC.out _ G0.out)
      (first
        | (go_at_call 36; refine (HI.out _ _ _ RA3.out RB3.out).mono ?_; rintro e w4 ⟨rfl, q, hq⟩; have G4 : Hid (Below V.heap.size V w4) := (by have b4 := below_drewN w3 q; rw [hq] at b4; exact G3.out.trans (b4.mono G3.out.size)); clear hq)
        | (go_at_call 26; refine (HA'.out _ G2.out).mono ?_; rintro e w3 ⟨vb, rfl, rb, b3⟩; have G3 := Lib.hid (G2.out.trans (b3.mono G2.out.size)); have RA3 := Lib.hid (RA2.out.below b3); have RB3 := Lib.hid rb; clear b3 rb)
        | (go_at_call 26; refine (HA.out _ G1.out).mono ?_; rintro e w2 ⟨va, rfl, ra, b2⟩; have G2 := Lib.hid (G1.out.trans (b2.mono G1.out.size)); have RA2 := Lib.hid ra; clear b2 ra)
        | (go_at_call 18; refine (HS.out _ G0.out).mono ?_; rintro e w1 ⟨rfl, b1⟩; have G1 := Lib.hid (G0.out.trans (b1.mono G0.out.size)); clear b1))
    all_goals
      go_wp2
      go_ret
      exact ⟨rfl, HB.out.trans (G4.out.mono HB.out.size)⟩
set_option maxHeartbeats 8000000 in
set_option maxRecDepth 100000 in
theorem requal_any {n m : Nat} {x y : Ty} {cs ds : List Value} {W : World} (h : TyAt W n x cs) (h' : TyAt W m y ds) (hb : (allP x).length ≤ Big) (hb' : (allP y).length ≤ Big) :
    Calls Tryd.prog 17 #[.agg cs.toArray, .agg ds.toArray] W fun e W' => e = .returned (.bool (equalP x y)) ∧ Below W.heap.size W W' := by
  obtain ⟨k, nm, u, r, R, lr, cr, A, la, ca, rfl⟩ := h.shape
  obtain ⟨k', nm', u', r', R', lr', cr', A', la', ca', rfl⟩ := h'.shape
  obtain ⟨o1, ho1⟩ : ∃ o, Obj.cells #[.int .i64 k, .string nm, .bool u, .int .i64 r, .slice R lr cr, .slice A la ca] 25 = o := ⟨_, rfl⟩
  obtain ⟨o2, ho2⟩ : ∃ o, Obj.cells #[.int .i64 k', .string nm', .bool u', .int .i64 r', .slice R' lr' cr', .slice A' la' ca'] 25 = o := ⟨_, rfl⟩
  have B2 : Below W.heap.size W ((W.alloc o1).alloc o2) := ((Below.refl _ W).alloc (Nat.le_refl _) o1).alloc (by simp) o2
  have i1 : Is ((W.alloc o1).alloc o2) W.heap.size 25 #[.int .i64 k, .string nm, .bool u, .int .i64 r, .slice R lr cr, .slice A la ca] := by rw [← ho1]; exact (Is.made W _ _).alloc _
  have hN : (W.alloc o1).heap.size = W.heap.size + 1 := by simp
  have i2 : Is ((W.alloc o1).alloc o2) (W.heap.size + 1) 25 #[.int .i64 k', .string nm', .bool u', .int .i64 r', .slice R' lr' cr', .slice A' la' ca'] := by rw [← ho2]; exact hN ▸ Is.made (W.alloc o1) _ _
  obtain ⟨V, hV⟩ : ∃ V, (W.alloc o1).alloc o2 = V := ⟨_, rfl⟩
  rw [hV] at B2 i1 i2
  have HV : Hid ((W.alloc (.cells #[.int .i64 k, .string nm, .bool u, .int .i64 r, .slice R lr cr, .slice A la ca] 25)).alloc (.cells #[.int .i64 k', .string nm', .bool u', .int .i64 r', .slice R' lr' cr', .slice A' la' ca'] 25) = V) := by rw [← hV, ← ho1, ← ho2]; exact rfl
  obtain ⟨sv, hsv⟩ : ∃ b, sameP x y = b := ⟨_, rfl⟩
  obtain ⟨dv, hdv⟩ : ∃ b, decide (allP x = allP y) = b := ⟨_, rfl⟩
  have HS : Hid (∀ X, Below V.heap.size V X → Calls Tryd.prog 14 #[.agg #[.int .i64 k, .string nm, .bool u, .int .i64 r, .slice R lr cr, .slice A la ca], .agg #[.int .i64 k', .string nm', .bool u', .int .i64 r', .slice R' lr' cr', .slice A' la' ca']] X fun e W' => e = .returned (.bool sv) ∧ Below X.heap.size X W') := by
    intro X hX
    have hWX := B2.trans (hX.mono B2.size)
    have := rsame_any n x y _ _ m X (TyAt.below hWX _ _ _ h) (TyAt.below hWX _ _ _ h')
    rw [hsv] at this
    exact this
  have HA : Hid (∀ X, Below V.heap.size V X → Calls Tryd.prog 13 #[.agg #[.int .i64 k, .string nm, .bool u, .int .i64 r, .slice R lr cr, .slice A la ca]] X fun e W' => ∃ v, e = .returned v ∧ RowI W' v (allP x) ∧ Below X.heap.size X W') := by
    intro X hX
    exact rall_any n _ _ X (TyAt.below (B2.trans (hX.mono B2.size)) _ _ _ h) hb
  have HA' : Hid (∀ X, Below V.heap.size V X → Calls Tryd.prog 13 #[.agg #[.int .i64 k', .string nm', .bool u', .int .i64 r', .slice R' lr' cr', .slice A' la' ca']] X fun e W' => ∃ v, e = .returned v ∧ RowI W' v (allP y) ∧ Below X.heap.size X W') := by
    intro X hX
    exact rall_any m _ _ X (TyAt.below (B2.trans (hX.mono B2.size)) _ _ _ h') hb'
  have HI : Hid (∀ X va vb, RowI X va (allP x) → RowI X vb (allP y) → Calls Tryd.prog 15 #[va, vb] X fun e W' => e = .returned (.bool dv) ∧ ∃ q, X.drewN q = W') := by
    intro X va vb h1 h2
    have := ints_eq h1 h2
    rw [hdv] at this
    exact this
  have KC : Hid (∀ X, Below V.heap.size V X → (X.cell? ⟨W.heap.size, 0, none⟩ = some (.int .i64 k) ∧ X.cell? ⟨W.heap.size, 1, none⟩ = some (.string nm) ∧ X.cell? ⟨W.heap.size, 2, none⟩ = some (.bool u) ∧ X.cell? ⟨W.heap.size, 3, none⟩ = some (.int .i64 r) ∧ X.cell? ⟨W.heap.size, 4, none⟩ = some (.slice R lr cr) ∧ X.cell? ⟨W.heap.size, 5, none⟩ = some (.slice A la ca)) ∧
      (X.cell? ⟨W.heap.size + 1, 0, none⟩ = some (.int .i64 k') ∧ X.cell? ⟨W.heap.size + 1, 1, none⟩ = some (.string nm') ∧ X.cell? ⟨W.heap.size + 1, 2, none⟩ = some (.bool u') ∧ X.cell? ⟨W.heap.size + 1, 3, none⟩ = some (.int .i64 r') ∧ X.cell? ⟨W.heap.size + 1, 4, none⟩ = some (.slice R' lr' cr') ∧ X.cell? ⟨W.heap.size + 1, 5, none⟩ = some (.slice A' la' ca'))) := by
    intro X hX
    have j1 := i1.below hX i1.lt
    have j2 := i2.below hX i2.lt
    exact ⟨⟨j1.at_ 0, j1.at_ 1, j1.at_ 2, j1.at_ 3, j1.at_ 4, j1.at_ 5⟩, j2.at_ 0, j2.at_ 1, j2.at_ 2, j2.at_ 3, j2.at_ 4, j2.at_ 5⟩
  rw [equalP, hsv, hdv]
  have HB := Lib.hid B2
  have G0 := Lib.hid (below_drew (Below.refl V.heap.size V))
  clear h h' hb hb' ho1 ho2 B2 i1 i2 hN hV hsv hdv
  obtain ⟨⟨n0, n1, n2, n3, n4, n5⟩, p0, p1, p2, p3, p4, p5⟩ := KC.out V (Below.refl _ _)
  cases sv with
  | false =>
    rw [Bool.false_and]
    go_enter Tryd.func17, Tryd.ntmps17
    go_wp2_with fail
    rw [HV.out]
    go_region_law
      (first
        | (go_simp; go_at_call 14; refine (HS.out _ G0.out).mono ?_; rintro e w1 ⟨rfl, b1⟩; have G1 := Lib.hid (G0.out.trans (b1.mono G0.out.size)); clear b1))
    all_goals
      go_wp2
      go_ret
      exact ⟨rfl, HB.out.trans (G1.out.mono HB.out.size)⟩
  | true =>
    rw [Bool.true_and]
    go_enter Tryd.func17, Tryd.ntmps17
    go_wp2_with fail
    rw [HV.out]
    go_region_held3 (fun X => (X.cell? ⟨W.heap.size, 0, none⟩ = some (.int .i64 k) ∧ X.cell? ⟨W.heap.size, 1, none⟩ = some (.string nm) ∧ X.cell? ⟨W.heap.size, 2, none⟩ = some (.bool u) ∧ X.cell? ⟨W.heap.size, 3, none⟩ = some (.int .i64 r) ∧ X.cell? ⟨W.heap.size, 4, none⟩ = some (.slice R lr cr) ∧ X.cell? ⟨W.heap.size, 5, none⟩ = some (.slice A la ca)) ∧
      (X.cell? ⟨W.heap.size + 1, 0, none⟩ = some (.int .i64 k') ∧ X.cell? ⟨W.heap.size + 1, 1, none⟩ = some (.string nm') ∧ X.cell? ⟨W.heap.size + 1, 2, none⟩ = some (.bool u') ∧ X.cell? ⟨W.heap.size + 1, 3, none⟩ = some (.int .i64 r') ∧ X.cell? ⟨W.heap.size + 1, 4, none⟩ = some (.slice R' lr' cr') ∧ X.cell? ⟨W.heap.size + 1, 5, none⟩ = some (.slice A' la' ca')))
      (first
        | exact KC.out _ G4.out
        | exact KC.out _ G3.out
        | exact KC.out _ G2.out
        | exact KC.out _ G1.out
        | exact KC.out _ G0.out)
      (first
        | (go_at_call 15; refine (HI.out _ _ _ RA3.out RB3.out).mono ?_; rintro e w4 ⟨rfl, q, hq⟩; have G4 : Hid (Below V.heap.size V w4) := (by have b4 := below_drewN w3 q; rw [hq] at b4; exact G3.out.trans (b4.mono G3.out.size)); clear hq)
        | (go_at_call 13; refine (HA'.out _ G2.out).mono ?_; rintro e w3 ⟨vb, rfl, rb, b3⟩; have G3 := Lib.hid (G2.out.trans (b3.mono G2.out.size)); have RA3 := Lib.hid (RA2.out.below b3); have RB3 := Lib.hid rb; clear b3 rb)
        | (go_at_call 13; refine (HA.out _ G1.out).mono ?_; rintro e w2 ⟨va, rfl, ra, b2⟩; have G2 := Lib.hid (G1.out.trans (b2.mono G1.out.size)); have RA2 := Lib.hid ra; clear b2 ra)
        | (go_at_call 14; refine (HS.out _ G0.out).mono ?_; rintro e w1 ⟨rfl, b1⟩; have G1 := Lib.hid (G0.out.trans (b1.mono G0.out.size)); clear b1))
    all_goals
      go_wp2
      go_ret
      exact ⟨rfl, HB.out.trans (G4.out.mono HB.out.size)⟩
end Ts
end Go.Proofs.YtiljpnghahkjhaaDoor
