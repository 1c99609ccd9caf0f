/- Layer 7: Inst, where nothing is put in for parameters. -/
import Derived.BigQuiet
import Derived.Carry
import Derived.Test.YtiljpnghahkjhaaDoorTypesIF
import Derived.Test.YtiljpnghahkjhaaDoorTypesIE
namespace Go.Proofs.YtiljpnghahkjhaaDoor
open Go.RowKit Go.Deep Tr Mp
namespace Ts
set_option maxHeartbeats 8000000 in
set_option maxRecDepth 100000 in
theorem inst_any {n m : Nat} {x : Ty} {cs : List Value} {X : World} {ls : List Int} {v : Value} (h : TyAt X n x cs) (hs : Slim m x) (hv : RowI X v ls) :
    Calls Tryd.prog 21 #[.agg cs.toArray, v, .slice none 0 0, .slice none 0 0] X fun e W' => ∃ ds, e = .returned (.agg ds.toArray) ∧ TyAt (only (qN X.heap.size) W') n (instP (lifeP ls) x) ds ∧ Below X.heap.size X W' := by
  obtain ⟨k, nm, u, r, R, lr, cr, A, la, ca, rfl⟩ := h.shape
  have hrow := hv
  obtain ⟨Al, cl, rfl, _⟩ := hv
  obtain ⟨ll, hll⟩ : ∃ q, ls.length = q := ⟨_, rfl⟩
  rw [hll] at hrow ⊢
  obtain ⟨N, hN⟩ : ∃ N, X.heap.size = N := ⟨_, rfl⟩
  obtain ⟨o1, ho1⟩ : ∃ o : Obj, Obj.cells #[.int .i64 k, .string nm, .bool u, .int .i64 r, .slice R lr cr, .slice A la ca] 25 = o := ⟨_, rfl⟩
  obtain ⟨o2, ho2⟩ : ∃ o : Obj, Obj.cells #[.slice Al ll cl] 22 = o := ⟨_, rfl⟩
  obtain ⟨o3, ho3⟩ : ∃ o : Obj, Obj.cells #[.slice none 0 0] 23 = o := ⟨_, rfl⟩
  obtain ⟨o4, ho4⟩ : ∃ o : Obj, Obj.cells #[.int .i64 0, .string ⟨#[]⟩, .bool false, .int .i64 0, .slice none 0 0, .slice none 0 0] 25 = o := ⟨_, rfl⟩
  obtain ⟨o5, ho5⟩ : ∃ o : Obj, Obj.map #[] 0 = o := ⟨_, rfl⟩
  obtain ⟨o6, ho6⟩ : ∃ o : Obj, Obj.cells #[.map (some (N + 1 + 1 + 1 + 1))] 50 = o := ⟨_, rfl⟩
  have hN1 : (X.alloc o1).heap.size = N + 1 := by simp [hN]
  have hN2 : ((X.alloc o1).alloc o2).heap.size = N + 1 + 1 := by simp [hN]
  have hN3 : (((X.alloc o1).alloc o2).alloc o3).heap.size = N + 1 + 1 + 1 := by simp [hN]
  have hN4 : ((((X.alloc o1).alloc o2).alloc o3).alloc o4).heap.size = N + 1 + 1 + 1 + 1 := by simp [hN]
  have hN5 : (((((X.alloc o1).alloc o2).alloc o3).alloc o4).alloc o5).heap.size = N + 1 + 1 + 1 + 1 + 1 := by simp [hN]
  have hN6 : ((((((X.alloc o1).alloc o2).alloc o3).alloc o4).alloc o5).alloc o6).heap.size = N + 1 + 1 + 1 + 1 + 1 + 1 := by simp [hN]
  have i1 : Is ((((((X.alloc o1).alloc o2).alloc o3).alloc o4).alloc o5).alloc o6) N 25 #[.int .i64 k, .string nm, .bool u, .int .i64 r, .slice R lr cr, .slice A la ca] := by rw [← ho1]; exact ((((((hN ▸ Is.made X _ _ : Is _ N _ _).alloc _).alloc _).alloc _).alloc _).alloc _)
  have i2 : Is ((((((X.alloc o1).alloc o2).alloc o3).alloc o4).alloc o5).alloc o6) (N + 1) 22 #[.slice Al ll cl] := by rw [← ho2]; exact (((((hN1 ▸ Is.made (X.alloc o1) _ _ : Is _ (N + 1) _ _).alloc _).alloc _).alloc _).alloc _)
  have i4 : Is ((((((X.alloc o1).alloc o2).alloc o3).alloc o4).alloc o5).alloc o6) (N + 1 + 1 + 1) 25 #[.int .i64 0, .string ⟨#[]⟩, .bool false, .int .i64 0, .slice none 0 0, .slice none 0 0] := by rw [← ho4]; exact (((hN3 ▸ Is.made (((X.alloc o1).alloc o2).alloc o3) _ _ : Is _ (N + 1 + 1 + 1) _ _).alloc _).alloc _)
  have i6 : Is ((((((X.alloc o1).alloc o2).alloc o3).alloc o4).alloc o5).alloc o6) (N + 1 + 1 + 1 + 1 + 1) 50 #[.map (some (N + 1 + 1 + 1 + 1))] := by rw [← ho6]; exact (hN5 ▸ Is.made (((((X.alloc o1).alloc o2).alloc o3).alloc o4).alloc o5) _ _ : Is _ (N + 1 + 1 + 1 + 1 + 1) _ _)
  have m5 : MapAt ((((((X.alloc o1).alloc o2).alloc o3).alloc o4).alloc o5).alloc o6) Tryd.prog 9 (N + 1 + 1 + 1 + 1) 0 (fun _ => none) := by
    have := (MapAt.made ((((X.alloc o1).alloc o2).alloc o3).alloc o4) Tryd.prog 9).alloc o6
    rw [hN4] at this
    rw [← ho5]
    exact this
  have BV : Below N X ((((((X.alloc o1).alloc o2).alloc o3).alloc o4).alloc o5).alloc o6) := ((((((hN ▸ Below.refl _ X : Below N X X).alloc (by omega) o1).alloc (by omega) o2).alloc (by omega) o3).alloc (by omega) o4).alloc (by omega) o5).alloc (by omega) o6
  obtain ⟨V, hV⟩ : ∃ V, ((((((X.alloc o1).alloc o2).alloc o3).alloc o4).alloc o5).alloc o6) = V := ⟨_, rfl⟩
  rw [hV] at i1 i2 i4 i6 m5 BV hN6
  have HV : Hid (((((((X.alloc (.cells #[.int .i64 k, .string nm, .bool u, .int .i64 r, .slice R lr cr, .slice A la ca] 25)).alloc (.cells #[.slice Al ll cl] 22)).alloc (.cells #[.slice none 0 0] 23)).alloc (.cells #[.int .i64 0, .string ⟨#[]⟩, .bool false, .int .i64 0, .slice none 0 0, .slice none 0 0] 25)).alloc (.map #[] 0)).alloc (.cells #[.map (some (N + 1 + 1 + 1 + 1))] 50)) = V) := by rw [← hV, ← ho1, ← ho2, ← ho3, ← ho4, ← ho5, ← ho6]; exact rfl
  have hBX : Below X.heap.size X V := hN.symm ▸ BV
  have hF := fill_any (Wb := V) (l := N + 1) (p := N + 1 + 1 + 1 + 1 + 1) (a := N + 1 + 1) (φ := lifeP ls)
    (Lib.hid fun Y q hY => life_any q (i2.below hY i2.lt) ((hrow.below hBX).below hY))
    (Lib.hid fun Y s hY hs => noarg_any hs (i6.below hY i6.lt) (m5.below hY m5.lt)) n m x _ V (TyAt.below hBX _ _ _ h) hs (.refl _ _)
  have HF := Lib.hid hF
  have HN := Lib.hid hN
  have I1 := Lib.hid i1
  have I4 := Lib.hid i4
  have HB := Lib.hid BV
  have HN6 := Lib.hid hN6
  rw [hN]
  have hmm := @run_makeMap Tryd.prog
  clear hF h hs hrow hll ho1 ho2 ho3 ho4 ho5 ho6 hN hN1 hN2 hN3 hN4 hN5 hN6 i1 i2 i4 i6 m5 BV hV hBX
  unfold LVof AVof at HF
  go_enter Tryd.func21, Tryd.ntmps21
  go_wp2_with fail
  rw [HN.out, HV.out]
  go_loopw [18] (fun i wr => i = .int .i64 0 ∧ wr = V) (fun _ _ => 0)
  case atStart => exact ⟨rfl, rfl⟩
  case round =>
    obtain ⟨rfl, rfl⟩ := hrel
    have n0 := I1.out.at_ 0
    have n1 := I1.out.at_ 1
    have n2 := I1.out.at_ 2
    have n3 := I1.out.at_ 3
    have n4 := I1.out.at_ 4
    have n5 := I1.out.at_ 5
    simp at n0 n1 n2 n3 n4 n5
    go_wp2_with fail
    refine HF.out.mono ?_
    rintro e W2 ⟨ds, rfl, t2, b2⟩
    obtain ⟨k1, nm1, u1, r1, R1, lr1, cr1, A1, la1, ca1, rfl⟩ := t2.shape
    have j2 := I4.out.below b2 I4.out.lt
    have p0 := j2.at_ 0
    have p1 := j2.at_ 1
    have p2 := j2.at_ 2
    have p3 := j2.at_ 3
    have p4 := j2.at_ 4
    have p5 := j2.at_ 5
    have g0 : ∀ i, W2.frozen? ⟨N + 1 + 1 + 1, i, none⟩ = false := fun i => j2.free i
    simp at p0 p1 p2 p3 p4 p5
    have B3 := Lib.hid (HB.out.trans (b2.mono (by rw [HN6.out]; omega)))
    have T2 := Lib.hid t2
    have HN6 := Lib.hid HN6.out
    clear j2 t2 b2 n0 n1 n2 n3 n4 n5
    go_wp2
    refine bodyPost_ret (v := .agg #[.int .i64 k1, .string nm1, .bool u1, .int .i64 r1, .slice R1 lr1 cr1, .slice A1 la1 ca1]) (by simp [results, Tryd.results21, go_sem, p0, p1, p2, p3, p4, p5]) rfl ⟨[.int .i64 k1, .string nm1, .bool u1, .int .i64 r1, .slice R1 lr1 cr1, .slice A1 la1 ca1], rfl, ?_, ?_⟩
    · refine T2.out.kept (fun b _ hq => ?_) (by simp [World.setCell]) (fun b _ hq => ?_)
      · simp only [qN, decide_eq_true_eq] at hq ⊢
        have := HN6.out
        omega
      · simp only [qN, decide_eq_true_eq] at hq
        have hne : b ≠ N + 1 + 1 + 1 := by have := HN6.out; omega
        rw [Below.heap_setCell _ _ _ _ hne, Below.heap_setCell _ _ _ _ hne, Below.heap_setCell _ _ _ _ hne, Below.heap_setCell _ _ _ _ hne, Below.heap_setCell _ _ _ _ hne, Below.heap_setCell _ _ _ _ hne]
    · exact (((((B3.out.setCell (show N ≤ N + 1 + 1 + 1 by omega) _).setCell (show N ≤ N + 1 + 1 + 1 by omega) _).setCell (show N ≤ N + 1 + 1 + 1 by omega) _).setCell (show N ≤ N + 1 + 1 + 1 by omega) _).setCell (show N ≤ N + 1 + 1 + 1 by omega) _).setCell (show N ≤ N + 1 + 1 + 1 by omega) _
end Ts
end Go.Proofs.YtiljpnghahkjhaaDoor
