/- Layer 10: together, Pairs, Both. -/
import Derived.Test.YtebnonbfjkielaaTypesU
import Derived.Test.YtebnonbfjkielaaSubG
namespace Go.Proofs.Ytebnonbfjkielaa
open Go.RowKit Go.Deep Tr Ts Vy Mp
namespace Sb
def PairAt (p : Int × Int) (cs : List Value) : Prop := cs = [.int .i64 p.1, .int .i64 p.2]
/-- A slice of pairs. -/
def RowP (w : World) (v : Value) (l : Ps) : Prop := ∃ A c, v = .slice A l.length c ∧ ListAt w 2 PairAt A l
theorem RowP.below {w w' : World} {v : Value} {l : Ps} (h : RowP w v l) (hb : Below w.heap.size w w') : RowP w' v l := by
  obtain ⟨A, c, e, h1⟩ := h
  exact ⟨A, c, e, h1.below hb fun _ _ _ h => h⟩
theorem RowP.nil (w : World) : RowP w (.slice none 0 0) [] := ⟨none, 0, rfl, ListAt.none _ _ _ _⟩
theorem pair_at {w : World} {A : Option Addr} {l : Ps} (h : ListAt w 2 PairAt A l) {i : Nat} (hi : i < l.length) : ∃ bk o, A = some ⟨bk, o, none⟩ ∧ bk < w.heap.size ∧ w.cell? ⟨bk, o + i * 2, none⟩ = some (.int .i64 l[i].1) ∧ w.cell? ⟨bk, o + i * 2 + 1, none⟩ = some (.int .i64 l[i].2) := by
  obtain ⟨bk, o, cs, hA, hl, _, hs, hc⟩ := h.get (by decide) hi
  unfold PairAt at hs
  subst hs
  exact ⟨bk, o, hA, hl, hc 0 _ rfl, hc 1 _ rfl⟩
theorem pairs_chunk : ∀ (l : Ps) (i : Nat) (h : i < l.length), PairAt l[i] (((pairsC l).drop (i * 2)).take 2)
  | p :: l, 0, _ => rfl
  | p :: l, i + 1, h => by
    have ih := pairs_chunk l i (by simpa using h)
    have e : pairsC (p :: l) = [.int .i64 p.1, .int .i64 p.2] ++ pairsC l := rfl
    rw [e, show (i + 1) * 2 = i * 2 + 2 by omega, List.drop_append]
    simpa using ih
theorem rowP_own {w : World} {base : Nat} {v : Value} {l : Ps} {te : TypeId} (h : w.ownsRow base te 2 v l.length (pairsC l)) : RowP w v l := by
  obtain ⟨A, c, rfl, _⟩ := own_slice h
  exact ⟨A, c, rfl, own_list h rfl (pairsC_one l) (fun i hi => pairs_chunk l i hi)⟩
/-- What may come of two types together. -/
def GaveP (Z : Ws) (x y : Ty) (v : Nat) (e : Ending) (W : World) : Prop := ∃ pv, e = .returned (.tuple #[pv, .bool (sameP x y)]) ∧ RowP W pv (if sameP x y then lookP Z x y v else [])
set_option maxHeartbeats 8000000 in
set_option maxRecDepth 100000 in
theorem together_any {n m : Nat} {x y : Ty} {cs ds : List Value} {W : World} {o : Value} {Z : Ws} (v : Nat) (hv : v < 4) (h : TyAt W n x cs) (h' : TyAt W m y ds) (hw : WaysAt W o Z) (h4 : ∀ s i, wayOf Z s i < 4) (hbig : 2 * (allP x).length ≤ Big) :
    Calls Try.prog 15 #[o, .agg cs.toArray, .agg ds.toArray, .int .i64 (v : Int)] W fun e W' => GaveP Z x y v e W' ∧ Below W.heap.size W W' := by
  obtain ⟨om, rfl⟩ : ∃ om, o = .map om := by
    rcases hw with ⟨e, _⟩ | ⟨b, _, _, e, _⟩
    · exact ⟨_, e⟩
    · exact ⟨_, e⟩
  obtain ⟨k, nm, u, r, R, lr, cr, A, la, ca, rfl⟩ := h.shape
  obtain ⟨k', nm', u', r', R', lr', cr', A', la', ca', rfl⟩ := h'.shape
  obtain ⟨o0, ho0⟩ : ∃ o', (Obj.cells #[.int .i64 k, .string nm, .bool u, .int .i64 r, .slice R lr cr, .slice A la ca] 25) = o' := ⟨_, rfl⟩
  obtain ⟨o1, ho1⟩ : ∃ o', (Obj.cells #[.int .i64 k', .string nm', .bool u', .int .i64 r', .slice R' lr' cr', .slice A' la' ca'] 25) = o' := ⟨_, rfl⟩
  obtain ⟨I0, I1⟩ := boxes2 W o0 o1 _ _ _ _ ho0.symm ho1.symm
  have hb : Below W.heap.size W ((W.alloc o0).alloc o1) := ((Below.refl _ W).alloc (Nat.le_refl _) o0).alloc (by simp) o1
  obtain ⟨V, hV⟩ : ∃ V, (W.alloc o0).alloc o1 = V := ⟨_, rfl⟩
  obtain ⟨N, hN⟩ : ∃ x, W.heap.size = x := ⟨_, rfl⟩
  rw [hV] at I0 I1 hb
  have HV : Hid ((W.alloc (.cells #[.int .i64 k, .string nm, .bool u, .int .i64 r, .slice R lr cr, .slice A la ca] 25)).alloc (.cells #[.int .i64 k', .string nm', .bool u', .int .i64 r', .slice R' lr' cr', .slice A' la' ca'] 25) = V) := by rw [← hV, ← ho0, ← ho1]; exact rfl
  have HN := Lib.hid hN
  have HSA := Lib.hid (same_any n x y _ _ m V (TyAt.below hb _ _ _ h) (TyAt.below hb _ _ _ h'))
  have HB := Lib.hid hb
  have HT := Lib.hid h
  have HT' := Lib.hid h'
  have HW := Lib.hid hw
  have H4 := Lib.hid h4
  have HBIG := Lib.hid hbig
  have hNV : N + 1 < V.heap.size := by rw [← hN]; exact I1.lt
  rw [hN] at I0 I1
  have KI : Hid (∀ X, Below V.heap.size V X → Is X N 25 #[.int .i64 k, .string nm, .bool u, .int .i64 r, .slice R lr cr, .slice A la ca] ∧ Is X (N + 1) 25 #[.int .i64 k', .string nm', .bool u', .int .i64 r', .slice R' lr' cr', .slice A' la' ca']) := fun X g => ⟨I0.below g I0.lt, I1.below g I1.lt⟩
  have HCC : Hid (∀ X, Below V.heap.size V X → X.cell? ⟨N, 0, none⟩ = some (.int .i64 k) ∧ X.cell? ⟨N, 1, none⟩ = some (.string nm) ∧ X.cell? ⟨N, 2, none⟩ = some (.bool u) ∧ X.cell? ⟨N, 3, none⟩ = some (.int .i64 r) ∧ X.cell? ⟨N, 4, none⟩ = some (.slice R lr cr) ∧ X.cell? ⟨N, 5, none⟩ = some (.slice A la ca)) := fun X g => by
    have J := (KI.out X g).1
    exact ⟨J.at_ 0, J.at_ 1, J.at_ 2, J.at_ 3, J.at_ 4, J.at_ 5⟩
  have HCC' : Hid (∀ X, Below V.heap.size V X → X.cell? ⟨N + 1, 0, none⟩ = some (.int .i64 k') ∧ X.cell? ⟨N + 1, 1, none⟩ = some (.string nm') ∧ X.cell? ⟨N + 1, 2, none⟩ = some (.bool u') ∧ X.cell? ⟨N + 1, 3, none⟩ = some (.int .i64 r') ∧ X.cell? ⟨N + 1, 4, none⟩ = some (.slice R' lr' cr') ∧ X.cell? ⟨N + 1, 5, none⟩ = some (.slice A' la' ca')) := fun X g => by
    have J := (KI.out X g).2
    exact ⟨J.at_ 0, J.at_ 1, J.at_ 2, J.at_ 3, J.at_ 4, J.at_ 5⟩
  obtain ⟨sv, hsv⟩ : ∃ b, sameP x y = b := ⟨_, rfl⟩
  have HSV := Lib.hid hsv
  rw [hsv] at HSA
  clear h h' hw h4 hbig I0 I1 hb ho0 ho1 hV hN hsv
  go_enter Try.func15, Try.ntmps15
  go_wp2_with fail
  rw [HV.out]
  try rw [HN.out]
  refine HSA.out.mono ?_
  rintro e w2 ⟨rfl, b2⟩
  have B2 := Lib.hid b2
  have hNw : N + 1 < w2.heap.size := Nat.lt_of_lt_of_le hNV b2.size
  obtain ⟨p0, p1, p2, p3, p4, p5⟩ := HCC.out w2 b2
  obtain ⟨s0, s1, s2, s3, s4, s5⟩ := HCC'.out w2 b2
  clear b2 HSA
  cases sv with
  | false =>
    have HR : Hid (GaveP Z x y v (.returned (.tuple #[.slice none 0 0, .bool false])) w2 ∧ Below W.heap.size W w2) := ⟨⟨_, by rw [HSV.out], by rw [HSV.out]; exact RowP.nil _⟩, HB.out.trans (B2.out.mono HB.out.size)⟩
    clear B2 HB p0 p1 p2 p3 p4 p5 s0 s1 s2 s3 s4 s5
    go_wp2
    exact bodyPost_ret (v := .tuple #[.slice none 0 0, .bool false]) (by simp [results, Try.results15, go_sem]) rfl HR.out
  | true =>
    obtain ⟨oW, hoW⟩ : ∃ o', (Obj.cells #[.map om, .slice none 0 0] 53) = o' := ⟨_, rfl⟩
    have hbW : Below V.heap.size V (w2.alloc oW) := B2.out.alloc B2.out.size oW
    have hWk : Wlk (w2.alloc oW) w2.heap.size (w2.heap.size + 1) (.map om) (.slice none 0 0) [] := ⟨by rw [← hoW]; exact Is.made w2 _ _, ⟨rfl, .inl ⟨rfl, rfl⟩⟩, Nat.lt_succ_self _, by simp⟩
    have hW0 : Below W.heap.size W (w2.alloc oW) := HB.out.trans (hbW.mono HB.out.size)
    have hfar : W.heap.size ≤ w2.heap.size := Nat.le_trans HB.out.size B2.out.size
    have hL := look_all W w2.heap.size (w2.heap.size + 1) (.map om) Z (Lib.hid ⟨HW.out, H4.out, hfar⟩) n x y _ _ m v (w2.alloc oW) _ [] HT.out HT'.out HSV.out hv hW0 hWk (by have := HBIG.out; simp; omega)
    have HL := Lib.hid hL
    have HWK := Lib.hid hWk
    have HW0 := Lib.hid hW0
    have HFAR := Lib.hid hfar
    clear p0 p1 p2 p3 p4 p5 s0 s1 s2 s3 s4 s5
    obtain ⟨p0, p1, p2, p3, p4, p5⟩ := HCC.out _ hbW
    obtain ⟨s0, s1, s2, s3, s4, s5⟩ := HCC'.out _ hbW
    have HOW := Lib.hid hoW
    clear hbW hWk hW0 hfar hL hoW
    rw [← HOW.out] at p0 p1 p2 p3 p4 p5 s0 s1 s2 s3 s4 s5
    go_wp2_with fail
    rw [HOW.out]
    refine HL.out.mono ?_
    rintro e w3 ⟨rfl, v3, g1, g2⟩
    have c1 := g1.cell.at_ 1
    simp only [List.getElem?_toArray, List.getElem?_cons_zero, List.getElem?_cons_succ] at c1
    have HR : Hid (GaveP Z x y v (.returned (.tuple #[v3, .bool true])) w3 ∧ Below W.heap.size W w3) := ⟨⟨_, by rw [HSV.out], by rw [HSV.out]; exact rowP_own g1.own⟩, g2.below HW0.out (by have := HFAR.out; omega) HW0.out.size (fun q e => by injection e with e; subst e; exact HFAR.out)⟩
    clear g1 g2 HL HWK HW0 HFAR p0 p1 p2 p3 p4 p5 s0 s1 s2 s3 s4 s5
    go_wp2
    exact bodyPost_ret (v := .tuple #[v3, .bool true]) (by simp [results, Try.results15, go_sem]) rfl HR.out
set_option maxHeartbeats 4000000 in
set_option maxRecDepth 100000 in
theorem pairs_any {n m : Nat} {x y : Ty} {cs ds : List Value} {W : World} {o : Value} {Z : Ws} (h : TyAt W n x cs) (h' : TyAt W m y ds) (hw : WaysAt W o Z) (h4 : ∀ s i, wayOf Z s i < 4) (hbig : 2 * (allP x).length ≤ Big) :
    Calls Try.prog 9 #[o, .agg cs.toArray, .agg ds.toArray] W fun e W' => GaveP Z x y 1 e W' ∧ Below W.heap.size W W' := by
  obtain ⟨k, nm, u, r, R, lr, cr, A, la, ca, rfl⟩ := h.shape
  obtain ⟨k', nm', u', r', R', lr', cr', A', la', ca', rfl⟩ := h'.shape
  obtain ⟨o0, ho0⟩ : ∃ o', (Obj.cells #[.int .i64 k, .string nm, .bool u, .int .i64 r, .slice R lr cr, .slice A la ca] 25) = o' := ⟨_, rfl⟩
  obtain ⟨o1, ho1⟩ : ∃ o', (Obj.cells #[.int .i64 k', .string nm', .bool u', .int .i64 r', .slice R' lr' cr', .slice A' la' ca'] 25) = o' := ⟨_, rfl⟩
  have hb : Below W.heap.size W ((W.alloc o0).alloc o1) := ((Below.refl _ W).alloc (Nat.le_refl _) o0).alloc (by simp) o1
  have HT := Lib.hid (together_any 1 (by decide) (TyAt.below hb _ _ _ h) (TyAt.below hb _ _ _ h') (hw.below hb) h4 hbig)
  have HB := Lib.hid hb
  have HO := Lib.hid ho0
  have HO' := Lib.hid ho1
  clear h h' hw h4 hbig hb ho0 ho1
  go_enter Try.func9, Try.ntmps9
  go_wp2_with fail
  rw [HO.out, HO'.out]
  refine HT.out.mono ?_
  rintro e w2 ⟨⟨pv, rfl, hr⟩, b2⟩
  have HR : Hid (GaveP Z x y 1 (.returned (.tuple #[pv, .bool (sameP x y)])) w2 ∧ Below W.heap.size W w2) := ⟨⟨pv, rfl, hr⟩, HB.out.trans (b2.mono HB.out.size)⟩
  clear hr b2 HT HB
  go_wp2
  exact bodyPost_ret (v := .tuple #[pv, .bool (sameP x y)]) (by simp [results, Try.results9, go_sem]) rfl HR.out
set_option maxHeartbeats 4000000 in
set_option maxRecDepth 100000 in
theorem both_any {n m : Nat} {x y : Ty} {cs ds : List Value} {W : World} {o : Value} {Z : Ws} (h : TyAt W n x cs) (h' : TyAt W m y ds) (hw : WaysAt W o Z) (h4 : ∀ s i, wayOf Z s i < 4) (hbig : 2 * (allP x).length ≤ Big) :
    Calls Try.prog 13 #[o, .agg cs.toArray, .agg ds.toArray] W fun e W' => GaveP Z x y 3 e W' ∧ Below W.heap.size W W' := by
  obtain ⟨k, nm, u, r, R, lr, cr, A, la, ca, rfl⟩ := h.shape
  obtain ⟨k', nm', u', r', R', lr', cr', A', la', ca', rfl⟩ := h'.shape
  obtain ⟨o0, ho0⟩ : ∃ o', (Obj.cells #[.int .i64 k, .string nm, .bool u, .int .i64 r, .slice R lr cr, .slice A la ca] 25) = o' := ⟨_, rfl⟩
  obtain ⟨o1, ho1⟩ : ∃ o', (Obj.cells #[.int .i64 k', .string nm', .bool u', .int .i64 r', .slice R' lr' cr', .slice A' la' ca'] 25) = o' := ⟨_, rfl⟩
  have hb : Below W.heap.size W ((W.alloc o0).alloc o1) := ((Below.refl _ W).alloc (Nat.le_refl _) o0).alloc (by simp) o1
  have HT := Lib.hid (together_any 3 (by decide) (TyAt.below hb _ _ _ h) (TyAt.below hb _ _ _ h') (hw.below hb) h4 hbig)
  have HB := Lib.hid hb
  have HO := Lib.hid ho0
  have HO' := Lib.hid ho1
  clear h h' hw h4 hbig hb ho0 ho1
  go_enter Try.func13, Try.ntmps13
  go_wp2_with fail
  rw [HO.out, HO'.out]
  refine HT.out.mono ?_
  rintro e w2 ⟨⟨pv, rfl, hr⟩, b2⟩
  have HR : Hid (GaveP Z x y 3 (.returned (.tuple #[pv, .bool (sameP x y)])) w2 ∧ Below W.heap.size W w2) := ⟨⟨pv, rfl, hr⟩, HB.out.trans (b2.mono HB.out.size)⟩
  clear hr b2 HT HB
  go_wp2
  exact bodyPost_ret (v := .tuple #[pv, .bool (sameP x y)]) (by simp [results, Try.results13, go_sem]) rfl HR.out
end Sb
end Go.Proofs.Ytebnonbfjkielaa
