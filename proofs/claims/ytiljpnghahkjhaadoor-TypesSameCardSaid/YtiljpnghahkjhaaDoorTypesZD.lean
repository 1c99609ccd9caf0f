/- Layer 7: the law TypesSame. -/
import Derived.Test.YtiljpnghahkjhaaDoorTypesZC
namespace Go.Proofs.YtiljpnghahkjhaaDoor
open Go.RowKit Go.Deep Tr
namespace Ts
theorem all_big {x : Ty} (h : Slim 6 x) : (allP x).length ≤ Big := Nat.le_trans (all_le 6 x h) (by decide)
set_option maxHeartbeats 16000000 in
set_option maxRecDepth 100000 in
theorem typesSame_walk {n n' : Nat} {x y : Ty} {cs ds : List Value} {W : World} (h : TyAt W n x cs) (h' : TyAt W n' y ds) :
    Calls Tryd.prog 4 #[.agg cs.toArray, .agg ds.toArray] W fun e W' => e = .returned (.bool true) ∧ Below W.heap.size W W' := by
  obtain ⟨k, nm, u, r, R, lr, cr, A, la, ca, rfl⟩ := h.shape
  obtain ⟨k', nm', u', r', R', lr', cr', A', la', ca', rfl⟩ := h'.shape
  obtain ⟨o1, ho1⟩ : ∃ o, Obj.cells #[.int .i64 k, .string nm, .bool u, .int .i64 r, .slice R lr cr, .slice A la ca] 25 = o := ⟨_, rfl⟩
  obtain ⟨o2, ho2⟩ : ∃ o, Obj.cells #[.int .i64 k', .string nm', .bool u', .int .i64 r', .slice R' lr' cr', .slice A' la' ca'] 25 = o := ⟨_, rfl⟩
  have B2 : Below W.heap.size W ((W.alloc o1).alloc o2) := ((Below.refl _ W).alloc (Nat.le_refl _) o1).alloc (by simp) o2
  have i1 : Is ((W.alloc o1).alloc o2) W.heap.size 25 #[.int .i64 k, .string nm, .bool u, .int .i64 r, .slice R lr cr, .slice A la ca] := by rw [← ho1]; exact (Is.made W _ _).alloc _
  have hN : (W.alloc o1).heap.size = W.heap.size + 1 := by simp
  have i2 : Is ((W.alloc o1).alloc o2) (W.heap.size + 1) 25 #[.int .i64 k', .string nm', .bool u', .int .i64 r', .slice R' lr' cr', .slice A' la' ca'] := by rw [← ho2]; exact hN ▸ Is.made (W.alloc o1) _ _
  obtain ⟨V, hV⟩ : ∃ V, (W.alloc o1).alloc o2 = V := ⟨_, rfl⟩
  rw [hV] at B2 i1 i2
  have HV : Hid ((W.alloc (.cells #[.int .i64 k, .string nm, .bool u, .int .i64 r, .slice R lr cr, .slice A la ca] 25)).alloc (.cells #[.int .i64 k', .string nm', .bool u', .int .i64 r', .slice R' lr' cr', .slice A' la' ca'] 25) = V) := by rw [← hV, ← ho1, ← ho2]; exact rfl
  have KC : Hid (∀ X, Below V.heap.size V X → (X.cell? ⟨W.heap.size, 0, none⟩ = some (.int .i64 k) ∧ X.cell? ⟨W.heap.size, 1, none⟩ = some (.string nm) ∧ X.cell? ⟨W.heap.size, 2, none⟩ = some (.bool u) ∧ X.cell? ⟨W.heap.size, 3, none⟩ = some (.int .i64 r) ∧ X.cell? ⟨W.heap.size, 4, none⟩ = some (.slice R lr cr) ∧ X.cell? ⟨W.heap.size, 5, none⟩ = some (.slice A la ca)) ∧
      (X.cell? ⟨W.heap.size + 1, 0, none⟩ = some (.int .i64 k') ∧ X.cell? ⟨W.heap.size + 1, 1, none⟩ = some (.string nm') ∧ X.cell? ⟨W.heap.size + 1, 2, none⟩ = some (.bool u') ∧ X.cell? ⟨W.heap.size + 1, 3, none⟩ = some (.int .i64 r') ∧ X.cell? ⟨W.heap.size + 1, 4, none⟩ = some (.slice R' lr' cr') ∧ X.cell? ⟨W.heap.size + 1, 5, none⟩ = some (.slice A' la' ca'))) := by
    intro X hX
    have j1 := i1.below hX i1.lt
    have j2 := i2.below hX i2.lt
    exact ⟨⟨j1.at_ 0, j1.at_ 1, j1.at_ 2, j1.at_ 3, j1.at_ 4, j1.at_ 5⟩, j2.at_ 0, j2.at_ 1, j2.at_ 2, j2.at_ 3, j2.at_ 4, j2.at_ 5⟩
  have HT : Hid (∀ X, Below V.heap.size V X → TyAt X n x [.int .i64 k, .string nm, .bool u, .int .i64 r, .slice R lr cr, .slice A la ca]) := fun X hX => TyAt.below (B2.trans (hX.mono B2.size)) _ _ _ h
  have HT' : Hid (∀ X, Below V.heap.size V X → TyAt X n' y [.int .i64 k', .string nm', .bool u', .int .i64 r', .slice R' lr' cr', .slice A' la' ca']) := fun X hX => TyAt.below (B2.trans (hX.mono B2.size)) _ _ _ h'
  have HB := Lib.hid B2
  have HWV : Hid (∀ X, Below V.heap.size V X → Below W.heap.size W X) := fun X hX => B2.trans (hX.mono B2.size)
  clear h h' ho1 ho2 B2 i1 i2 hN hV
  go_enter Tryd.func4, Tryd.ntmps4
  go_wp2_with fail
  rw [HV.out]
  refine (typed_any V).mono ?_
  rintro e W1 ⟨rfl, b1⟩
  have G1 := Lib.hid b1
  clear b1
  obtain ⟨⟨n0, n1, n2, n3, n4, n5⟩, p0, p1, p2, p3, p4, p5⟩ := KC.out W1 G1.out
  have HSA := Lib.hid (small_any n x _ 6 W1 (HT.out W1 G1.out) (by decide))
  go_wp2_with fail
  refine HSA.out.mono ?_
  rintro e W2 ⟨⟨sa, rfl, hsa⟩, b2⟩
  have G2 := Lib.hid (G1.out.trans (b2.mono G1.out.size))
  clear b2 HSA n0 n1 n2 n3 n4 n5 p0 p1 p2 p3 p4 p5
  cases sa with
  | false =>
    go_wp2_with fail
    refine (typed_any W2).mono ?_
    rintro e W3 ⟨rfl, b3⟩
    have G3 := Lib.hid (HWV.out _ (G2.out.trans (b3.mono G2.out.size)))
    clear b3
    go_wp2
    go_ret
    exact ⟨rfl, G3.out⟩
  | true =>
    have SA := Lib.hid (hsa rfl)
    clear hsa
    obtain ⟨⟨n0, n1, n2, n3, n4, n5⟩, p0, p1, p2, p3, p4, p5⟩ := KC.out W2 G2.out
    have HSB := Lib.hid (small_any n' y _ 6 W2 (HT'.out W2 G2.out) (by decide))
    go_wp2_with fail
    refine HSB.out.mono ?_
    rintro e W3 ⟨⟨sb, rfl, hsb⟩, b3⟩
    have G3 := Lib.hid (G2.out.trans (b3.mono G2.out.size))
    clear b3 HSB n0 n1 n2 n3 n4 n5 p0 p1 p2 p3 p4 p5
    cases sb with
    | false =>
      go_wp2_with fail
      refine (typed_any W3).mono ?_
      rintro e W4 ⟨rfl, b4⟩
      have G4 := Lib.hid (HWV.out _ (G3.out.trans (b4.mono G3.out.size)))
      clear b4
      go_wp2
      go_ret
      exact ⟨rfl, G4.out⟩
    | true =>
      have SB := Lib.hid (hsb rfl)
      clear hsb
      obtain ⟨⟨n0, n1, n2, n3, n4, n5⟩, p0, p1, p2, p3, p4, p5⟩ := KC.out W3 G3.out
      obtain ⟨sv, hsv⟩ : ∃ b, sameP x y = b := ⟨_, rfl⟩
      obtain ⟨ev, hev⟩ : ∃ b, equalP x y = b := ⟨_, rfl⟩
      have HS1 : Hid (∀ X, Below V.heap.size V X → Calls Tryd.prog 18 #[.agg #[.int .i64 k, .string nm, .bool u, .int .i64 r, .slice R lr cr, .slice A la ca], .agg #[.int .i64 k', .string nm', .bool u', .int .i64 r', .slice R' lr' cr', .slice A' la' ca']] X fun e W' => e = .returned (.bool sv) ∧ Below X.heap.size X W') := fun X hX => hsv ▸ same_any n x y _ _ n' X (HT.out X hX) (HT'.out X hX)
      have HS2 : Hid (∀ X, Below V.heap.size V X → Calls Tryd.prog 14 #[.agg #[.int .i64 k, .string nm, .bool u, .int .i64 r, .slice R lr cr, .slice A la ca], .agg #[.int .i64 k', .string nm', .bool u', .int .i64 r', .slice R' lr' cr', .slice A' la' ca']] X fun e W' => e = .returned (.bool sv) ∧ Below X.heap.size X W') := fun X hX => hsv ▸ rsame_any n x y _ _ n' X (HT.out X hX) (HT'.out X hX)
      have HE1 : Hid (∀ X, Below V.heap.size V X → Calls Tryd.prog 19 #[.agg #[.int .i64 k, .string nm, .bool u, .int .i64 r, .slice R lr cr, .slice A la ca], .agg #[.int .i64 k', .string nm', .bool u', .int .i64 r', .slice R' lr' cr', .slice A' la' ca']] X fun e W' => e = .returned (.bool ev) ∧ Below X.heap.size X W') := fun X hX => hev ▸ equal_any (HT.out X hX) (HT'.out X hX) (all_big SA.out) (all_big SB.out)
      have HE2 : Hid (∀ X, Below V.heap.size V X → Calls Tryd.prog 17 #[.agg #[.int .i64 k, .string nm, .bool u, .int .i64 r, .slice R lr cr, .slice A la ca], .agg #[.int .i64 k', .string nm', .bool u', .int .i64 r', .slice R' lr' cr', .slice A' la' ca']] X fun e W' => e = .returned (.bool ev) ∧ Below X.heap.size X W') := fun X hX => hev ▸ requal_any (HT.out X hX) (HT'.out X hX) (all_big SA.out) (all_big SB.out)
      have HER : Hid (∀ X, Below V.heap.size V X → Calls Tryd.prog 16 #[.agg #[.int .i64 k, .string nm, .bool u, .int .i64 r, .slice R lr cr, .slice A la ca]] X fun e W' => ∃ es, e = .returned (.agg es.toArray) ∧ TyAt W' n (eraseP x) es ∧ Below X.heap.size X W') := fun X hX => (erase_any (HT.out X hX) SA.out).mono fun e W' ⟨es, q1, q2, q3⟩ => ⟨es, q1, q2.whole, q3⟩
      have HS3 : Hid (∀ X es, Below V.heap.size V X → TyAt X n (eraseP x) es → Calls Tryd.prog 18 #[.agg #[.int .i64 k, .string nm, .bool u, .int .i64 r, .slice R lr cr, .slice A la ca], .agg es.toArray] X fun e W' => e = .returned (.bool true) ∧ Below X.heap.size X W') := fun X es hX hes => same_erase x ▸ same_any n x (eraseP x) _ _ n X (HT.out X hX) hes
      have G3d := Lib.hid (below_drew G3.out)
      clear hsv hev
      by_cases hk : k = 1 ∨ k = 2 ∨ k = 3 ∨ k = 4
      · have HCP : Hid (∀ X, Calls Tryd.prog 20 #[.agg #[.int .i64 k, .string nm, .bool u, .int .i64 r, .slice R lr cr, .slice A la ca]] X fun e W' => e = .returned (.bool true) ∧ Below X.heap.size X W') := fun X => by
          have := copies_any X k nm u r R lr cr A la ca
          rw [copiesP, if_pos hk] at this
          exact this
        have q1 : 1 ≤ k := by omega
        have q2 : k ≤ 4 := by omega
        clear hk
        cases sv <;> cases ev
        all_goals
          go_wp2_with fail
          go_region_held3 (fun X => (X.cell? ⟨W.heap.size, 0, none⟩ = some (.int .i64 k) ∧ X.cell? ⟨W.heap.size, 1, none⟩ = some (.string nm) ∧ X.cell? ⟨W.heap.size, 2, none⟩ = some (.bool u) ∧ X.cell? ⟨W.heap.size, 3, none⟩ = some (.int .i64 r) ∧ X.cell? ⟨W.heap.size, 4, none⟩ = some (.slice R lr cr) ∧ X.cell? ⟨W.heap.size, 5, none⟩ = some (.slice A la ca)) ∧
                (X.cell? ⟨W.heap.size + 1, 0, none⟩ = some (.int .i64 k') ∧ X.cell? ⟨W.heap.size + 1, 1, none⟩ = some (.string nm') ∧ X.cell? ⟨W.heap.size + 1, 2, none⟩ = some (.bool u') ∧ X.cell? ⟨W.heap.size + 1, 3, none⟩ = some (.int .i64 r') ∧ X.cell? ⟨W.heap.size + 1, 4, none⟩ = some (.slice R' lr' cr') ∧ X.cell? ⟨W.heap.size + 1, 5, none⟩ = some (.slice A' la' ca')))
            (first
              | exact KC.out _ G11.out
              | exact KC.out _ G10.out
              | exact KC.out _ G9.out
              | exact KC.out _ G8.out
              | exact KC.out _ G7.out
              | exact KC.out _ G6.out
              | exact KC.out _ G5.out
              | exact KC.out _ G3d.out
              | exact KC.out _ G3.out)
            (first
              | (go_at_call 20; refine (HCP.out w10).mono ?_; rintro e w11 ⟨rfl, b⟩; have G11 := Lib.hid (G10.out.trans (b.mono G10.out.size)); clear b)
              | (go_at_call 18; refine (HS3.out _ _ G9.out TE.out).mono ?_; rintro e w10 ⟨rfl, b⟩; have G10 := Lib.hid (G9.out.trans (b.mono G9.out.size)); clear b)
              | (go_at_call 16; refine (HER.out _ G8.out).mono ?_; rintro e w9 ⟨es, rfl, te, b⟩; have G9 := Lib.hid (G8.out.trans (b.mono G8.out.size)); have TE := Lib.hid te; clear b te)
              | (go_at_call 17; refine (HE2.out _ G7.out).mono ?_; rintro e w8 ⟨rfl, b⟩; have G8 := Lib.hid (G7.out.trans (b.mono G7.out.size)); clear b)
              | (go_at_call 19; refine (HE1.out _ G6.out).mono ?_; rintro e w7 ⟨rfl, b⟩; have G7 := Lib.hid (G6.out.trans (b.mono G6.out.size)); clear b)
              | (go_at_call 14; refine (HS2.out _ G5.out).mono ?_; rintro e w6 ⟨rfl, b⟩; have G6 := Lib.hid (G5.out.trans (b.mono G5.out.size)); clear b)
              | (go_at_call 18; refine (HS1.out _ G3d.out).mono ?_; rintro e w5 ⟨rfl, b⟩; have G5 := Lib.hid (G3d.out.trans (b.mono G3d.out.size)); clear b))
          all_goals
            go_wp2
            go_ret
            exact ⟨rfl, HWV.out _ G11.out⟩
      · by_cases h7 : k = 7
        · subst h7
          have HCP : Hid (∀ X, Calls Tryd.prog 20 #[.agg #[.int .i64 7, .string nm, .bool u, .int .i64 r, .slice R lr cr, .slice A la ca]] X fun e W' => e = .returned (.bool !u) ∧ Below X.heap.size X W') := fun X => copies_7 X nm u r R lr cr A la ca
          clear hk
          obtain ⟨nu, hnu⟩ : ∃ b, (!u) = b := ⟨_, rfl⟩
          rw [hnu] at HCP
          cases sv <;> cases ev
          all_goals
            go_wp2_with fail
            go_region_held3 (fun X => (X.cell? ⟨W.heap.size, 0, none⟩ = some (.int .i64 7) ∧ X.cell? ⟨W.heap.size, 1, none⟩ = some (.string nm) ∧ X.cell? ⟨W.heap.size, 2, none⟩ = some (.bool u) ∧ X.cell? ⟨W.heap.size, 3, none⟩ = some (.int .i64 r) ∧ X.cell? ⟨W.heap.size, 4, none⟩ = some (.slice R lr cr) ∧ X.cell? ⟨W.heap.size, 5, none⟩ = some (.slice A la ca)) ∧
                  (X.cell? ⟨W.heap.size + 1, 0, none⟩ = some (.int .i64 k') ∧ X.cell? ⟨W.heap.size + 1, 1, none⟩ = some (.string nm') ∧ X.cell? ⟨W.heap.size + 1, 2, none⟩ = some (.bool u') ∧ X.cell? ⟨W.heap.size + 1, 3, none⟩ = some (.int .i64 r') ∧ X.cell? ⟨W.heap.size + 1, 4, none⟩ = some (.slice R' lr' cr') ∧ X.cell? ⟨W.heap.size + 1, 5, none⟩ = some (.slice A' la' ca')))
              (first
                | exact KC.out _ G11.out
                | exact KC.out _ G10.out
                | exact KC.out _ G9.out
                | exact KC.out _ G8.out
                | exact KC.out _ G7.out
                | exact KC.out _ G6.out
                | exact KC.out _ G5.out
                | exact KC.out _ G3d.out
                | exact KC.out _ G3.out)
              (first
                | (go_at_call 20; refine (HCP.out w10).mono ?_; rintro e w11 ⟨rfl, b⟩; have G11 := Lib.hid (G10.out.trans (b.mono G10.out.size)); clear b)
                | (go_at_call 18; refine (HS3.out _ _ G9.out TE.out).mono ?_; rintro e w10 ⟨rfl, b⟩; have G10 := Lib.hid (G9.out.trans (b.mono G9.out.size)); clear b)
                | (go_at_call 16; refine (HER.out _ G8.out).mono ?_; rintro e w9 ⟨es, rfl, te, b⟩; have G9 := Lib.hid (G8.out.trans (b.mono G8.out.size)); have TE := Lib.hid te; clear b te)
                | (go_at_call 17; refine (HE2.out _ G7.out).mono ?_; rintro e w8 ⟨rfl, b⟩; have G8 := Lib.hid (G7.out.trans (b.mono G7.out.size)); clear b)
                | (go_at_call 19; refine (HE1.out _ G6.out).mono ?_; rintro e w7 ⟨rfl, b⟩; have G7 := Lib.hid (G6.out.trans (b.mono G6.out.size)); clear b)
                | (go_at_call 14; refine (HS2.out _ G5.out).mono ?_; rintro e w6 ⟨rfl, b⟩; have G6 := Lib.hid (G5.out.trans (b.mono G5.out.size)); clear b)
                | (go_at_call 18; refine (HS1.out _ G3d.out).mono ?_; rintro e w5 ⟨rfl, b⟩; have G5 := Lib.hid (G3d.out.trans (b.mono G3d.out.size)); clear b))
            all_goals
              go_wp2
              go_ret
              exact ⟨rfl, HWV.out _ G11.out⟩
        · have HCP : Hid (∀ X, Calls Tryd.prog 20 #[.agg #[.int .i64 k, .string nm, .bool u, .int .i64 r, .slice R lr cr, .slice A la ca]] X fun e W' => e = .returned (.bool false) ∧ Below X.heap.size X W') := fun X => by
            have := copies_any X k nm u r R lr cr A la ca
            rw [copiesP, if_neg hk, if_neg h7] at this
            exact this
          have e7 : (k == 7) = false := ne_of' h7
          by_cases q1 : 1 ≤ k
          · have q2 : 4 < k := by omega
            have e4 : decide (k ≤ 4) = false := decide_eq_false (by omega)
            clear hk h7
            cases sv <;> cases ev
            all_goals
              go_wp2_with fail
              go_region_held3 (fun X => (X.cell? ⟨W.heap.size, 0, none⟩ = some (.int .i64 k) ∧ X.cell? ⟨W.heap.size, 1, none⟩ = some (.string nm) ∧ X.cell? ⟨W.heap.size, 2, none⟩ = some (.bool u) ∧ X.cell? ⟨W.heap.size, 3, none⟩ = some (.int .i64 r) ∧ X.cell? ⟨W.heap.size, 4, none⟩ = some (.slice R lr cr) ∧ X.cell? ⟨W.heap.size, 5, none⟩ = some (.slice A la ca)) ∧
                    (X.cell? ⟨W.heap.size + 1, 0, none⟩ = some (.int .i64 k') ∧ X.cell? ⟨W.heap.size + 1, 1, none⟩ = some (.string nm') ∧ X.cell? ⟨W.heap.size + 1, 2, none⟩ = some (.bool u') ∧ X.cell? ⟨W.heap.size + 1, 3, none⟩ = some (.int .i64 r') ∧ X.cell? ⟨W.heap.size + 1, 4, none⟩ = some (.slice R' lr' cr') ∧ X.cell? ⟨W.heap.size + 1, 5, none⟩ = some (.slice A' la' ca')))
                (first
                  | exact KC.out _ G11.out
                  | exact KC.out _ G10.out
                  | exact KC.out _ G9.out
                  | exact KC.out _ G8.out
                  | exact KC.out _ G7.out
                  | exact KC.out _ G6.out
                  | exact KC.out _ G5.out
                  | exact KC.out _ G3d.out
                  | exact KC.out _ G3.out)
                (first
                  | (go_at_call 20; refine (HCP.out w10).mono ?_; rintro e w11 ⟨rfl, b⟩; have G11 := Lib.hid (G10.out.trans (b.mono G10.out.size)); clear b)
                  | (go_at_call 18; refine (HS3.out _ _ G9.out TE.out).mono ?_; rintro e w10 ⟨rfl, b⟩; have G10 := Lib.hid (G9.out.trans (b.mono G9.out.size)); clear b)
                  | (go_at_call 16; refine (HER.out _ G8.out).mono ?_; rintro e w9 ⟨es, rfl, te, b⟩; have G9 := Lib.hid (G8.out.trans (b.mono G8.out.size)); have TE := Lib.hid te; clear b te)
                  | (go_at_call 17; refine (HE2.out _ G7.out).mono ?_; rintro e w8 ⟨rfl, b⟩; have G8 := Lib.hid (G7.out.trans (b.mono G7.out.size)); clear b)
                  | (go_at_call 19; refine (HE1.out _ G6.out).mono ?_; rintro e w7 ⟨rfl, b⟩; have G7 := Lib.hid (G6.out.trans (b.mono G6.out.size)); clear b)
                  | (go_at_call 14; refine (HS2.out _ G5.out).mono ?_; rintro e w6 ⟨rfl, b⟩; have G6 := Lib.hid (G5.out.trans (b.mono G5.out.size)); clear b)
                  | (go_at_call 18; refine (HS1.out _ G3d.out).mono ?_; rintro e w5 ⟨rfl, b⟩; have G5 := Lib.hid (G3d.out.trans (b.mono G3d.out.size)); clear b))
              all_goals
                go_wp2
                go_ret
                exact ⟨rfl, HWV.out _ G11.out⟩
          · have q2 : k < 1 := by omega
            clear hk h7
            cases sv <;> cases ev
            all_goals
              go_wp2_with fail
              go_region_held3 (fun X => (X.cell? ⟨W.heap.size, 0, none⟩ = some (.int .i64 k) ∧ X.cell? ⟨W.heap.size, 1, none⟩ = some (.string nm) ∧ X.cell? ⟨W.heap.size, 2, none⟩ = some (.bool u) ∧ X.cell? ⟨W.heap.size, 3, none⟩ = some (.int .i64 r) ∧ X.cell? ⟨W.heap.size, 4, none⟩ = some (.slice R lr cr) ∧ X.cell? ⟨W.heap.size, 5, none⟩ = some (.slice A la ca)) ∧
                    (X.cell? ⟨W.heap.size + 1, 0, none⟩ = some (.int .i64 k') ∧ X.cell? ⟨W.heap.size + 1, 1, none⟩ = some (.string nm') ∧ X.cell? ⟨W.heap.size + 1, 2, none⟩ = some (.bool u') ∧ X.cell? ⟨W.heap.size + 1, 3, none⟩ = some (.int .i64 r') ∧ X.cell? ⟨W.heap.size + 1, 4, none⟩ = some (.slice R' lr' cr') ∧ X.cell? ⟨W.heap.size + 1, 5, none⟩ = some (.slice A' la' ca')))
                (first
                  | exact KC.out _ G11.out
                  | exact KC.out _ G10.out
                  | exact KC.out _ G9.out
                  | exact KC.out _ G8.out
                  | exact KC.out _ G7.out
                  | exact KC.out _ G6.out
                  | exact KC.out _ G5.out
                  | exact KC.out _ G3d.out
                  | exact KC.out _ G3.out)
                (first
                  | (go_at_call 20; refine (HCP.out w10).mono ?_; rintro e w11 ⟨rfl, b⟩; have G11 := Lib.hid (G10.out.trans (b.mono G10.out.size)); clear b)
                  | (go_at_call 18; refine (HS3.out _ _ G9.out TE.out).mono ?_; rintro e w10 ⟨rfl, b⟩; have G10 := Lib.hid (G9.out.trans (b.mono G9.out.size)); clear b)
                  | (go_at_call 16; refine (HER.out _ G8.out).mono ?_; rintro e w9 ⟨es, rfl, te, b⟩; have G9 := Lib.hid (G8.out.trans (b.mono G8.out.size)); have TE := Lib.hid te; clear b te)
                  | (go_at_call 17; refine (HE2.out _ G7.out).mono ?_; rintro e w8 ⟨rfl, b⟩; have G8 := Lib.hid (G7.out.trans (b.mono G7.out.size)); clear b)
                  | (go_at_call 19; refine (HE1.out _ G6.out).mono ?_; rintro e w7 ⟨rfl, b⟩; have G7 := Lib.hid (G6.out.trans (b.mono G6.out.size)); clear b)
                  | (go_at_call 14; refine (HS2.out _ G5.out).mono ?_; rintro e w6 ⟨rfl, b⟩; have G6 := Lib.hid (G5.out.trans (b.mono G5.out.size)); clear b)
                  | (go_at_call 18; refine (HS1.out _ G3d.out).mono ?_; rintro e w5 ⟨rfl, b⟩; have G5 := Lib.hid (G3d.out.trans (b.mono G3d.out.size)); clear b))
              all_goals
                go_wp2
                go_ret
                exact ⟨rfl, HWV.out _ G11.out⟩
end Ts
end Go.Proofs.YtiljpnghahkjhaaDoor
