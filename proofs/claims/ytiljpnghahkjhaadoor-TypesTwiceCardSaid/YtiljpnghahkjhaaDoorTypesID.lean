/- Layer 7: a type with other regions (Inst where nothing is put in for parameters): fill's closure. -/
import Derived.Test.YtiljpnghahkjhaaDoorTypesIC
namespace Go.Proofs.YtiljpnghahkjhaaDoor
open Go.RowKit Go.Deep Tr
namespace Ts
mutual
def instP (φ : Int → Int) : Ty → Ty
  | .mk k nm u r rs ar => .mk k nm u (if k = 9 then r else regM φ k r) (rowM φ k rs) (instL φ ar)
def instL (φ : Int → Int) : List Ty → List Ty
  | [] => []
  | x :: l => instP φ x :: instL φ l
end
theorem instL_map (φ : Int → Int) : ∀ l : List Ty, instL φ l = l.map (instP φ)
  | [] => by rw [instL]; rfl
  | x :: l => by rw [instL, instL_map φ l]; rfl
theorem rowM_len (φ : Int → Int) (k : Int) (rs : List Int) : (rowM φ k rs).length = rs.length := by
  unfold rowM
  split
  · rw [List.length_map]
  · rfl
def LVof (l : Nat) : Value := .func (.func 37) #[] #[.pointer (some ⟨l, 0, none⟩)]
def AVof (p a : Nat) : Value := .func (.func 39) #[] #[.pointer (some ⟨p, 0, none⟩), .pointer (some ⟨a, 0, none⟩)]
def FillE (Wb : World) (l p a : Nat) (φ : Int → Int) (n m : Nat) : Prop := ∀ (x : Ty) (cs : List Value) (X : World), TyAt X n x cs → Slim m x → Below Wb.heap.size Wb X →
  Calls Tryd.prog 38 #[.agg cs.toArray, LVof l, AVof p a] X fun e W' => ∃ ds, e = .returned (.agg ds.toArray) ∧ TyAt (only (qN X.heap.size) W') n (instP φ x) ds ∧ Below X.heap.size X W'
set_option maxHeartbeats 8000000 in
set_option maxRecDepth 100000 in
theorem fillC_of {Wb : World} {l p a : Nat} {φ : Int → Int} (n m : Nat) (HM : Hid (FillE Wb l p a φ n m)) (c d : Nat) (W0 : World) (hbW : Below Wb.heap.size Wb W0) : FillC (LVof l) (AVof p a) n m c d W0 (instP φ) := by
  intro x cs X h hb hE hs
  obtain ⟨k, nm, u, r, R, lr, cr, A, la, ca, rfl⟩ := h.shape
  obtain ⟨o1, ho1⟩ : ∃ o, Obj.cells #[.int .i64 k, .string nm, .bool u, .int .i64 r, .slice R lr cr, .slice A la ca] 25 = o := ⟨_, rfl⟩
  obtain ⟨o2, ho2⟩ : ∃ o, Obj.cells #[.int .i64 0, .string ⟨#[]⟩, .bool false, .int .i64 0, .slice none 0 0, .slice none 0 0] 25 = o := ⟨_, rfl⟩
  have B2 : Below X.heap.size X ((X.alloc o1).alloc o2) := ((Below.refl _ X).alloc (Nat.le_refl _) o1).alloc (by simp) o2
  have hN : (X.alloc o1).heap.size = X.heap.size + 1 := by simp
  have i2 : Is ((X.alloc o1).alloc o2) (X.heap.size + 1) 25 #[.int .i64 0, .string ⟨#[]⟩, .bool false, .int .i64 0, .slice none 0 0, .slice none 0 0] := by rw [← ho2]; exact hN ▸ Is.made (X.alloc o1) _ _
  have hS : ((X.alloc o1).alloc o2).heap.size = X.heap.size + 1 + 1 := by simp
  obtain ⟨V, hV⟩ : ∃ V, (X.alloc o1).alloc o2 = V := ⟨_, rfl⟩
  have HV : Hid ((X.alloc (.cells #[.int .i64 k, .string nm, .bool u, .int .i64 r, .slice R lr cr, .slice A la ca] 25)).alloc (.cells #[.int .i64 0, .string ⟨#[]⟩, .bool false, .int .i64 0, .slice none 0 0, .slice none 0 0] 25) = V) := by rw [← hV, ← ho1, ← ho2]; exact rfl
  have eV : ((X.alloc (.cells #[.int .i64 k, .string nm, .bool u, .int .i64 r, .slice R lr cr, .slice A la ca] 25)).alloc (.cells #[.int .i64 0, .string ⟨#[]⟩, .bool false, .int .i64 0, .slice none 0 0, .slice none 0 0] 25)).cell? ⟨c, 0, none⟩ = some (LVof l) := by
    have := ((hE.alloc (.cells #[.int .i64 k, .string nm, .bool u, .int .i64 r, .slice R lr cr, .slice A la ca] 25)).alloc (.cells #[.int .i64 0, .string ⟨#[]⟩, .bool false, .int .i64 0, .slice none 0 0, .slice none 0 0] 25)).life.at_ 0
    rw [this]
    rfl
  have eA : ((X.alloc (.cells #[.int .i64 k, .string nm, .bool u, .int .i64 r, .slice R lr cr, .slice A la ca] 25)).alloc (.cells #[.int .i64 0, .string ⟨#[]⟩, .bool false, .int .i64 0, .slice none 0 0, .slice none 0 0] 25)).cell? ⟨d, 0, none⟩ = some (AVof p a) := by
    have := ((hE.alloc (.cells #[.int .i64 k, .string nm, .bool u, .int .i64 r, .slice R lr cr, .slice A la ca] 25)).alloc (.cells #[.int .i64 0, .string ⟨#[]⟩, .bool false, .int .i64 0, .slice none 0 0, .slice none 0 0] 25)).arg.at_ 0
    rw [this]
    rfl
  rw [hV] at B2 i2 hS
  have hMM := HM.out x _ V (TyAt.below (hb.trans (B2.mono hb.size)) _ _ _ h) hs (hbW.trans ((hb.trans (B2.mono hb.size)).mono hbW.size))
  rw [hS] at hMM
  obtain ⟨N, hN0⟩ : ∃ N, X.heap.size = N := ⟨_, rfl⟩
  rw [hN0] at hMM i2 B2 hS ⊢
  have HMM := Lib.hid hMM
  have HN := Lib.hid hN0
  have I2 := Lib.hid i2
  have HB2 := Lib.hid B2
  have HS := Lib.hid hS
  clear h hb hE hs hbW ho1 ho2 B2 hN i2 hS hV hMM hN0
  go_enter Tryd.func54, Tryd.ntmps54
  go_wp2_with fail
  rw [HV.out, HN.out]
  refine HMM.out.mono ?_
  rintro e W2 ⟨ds, rfl, t2, b2⟩
  obtain ⟨k1, nm1, u1, r1, R1, lr1, cr1, A1, la1, ca1, rfl⟩ := t2.shape
  have j2 := I2.out.below b2 (by omega)
  have p0 := j2.at_ 0
  have p1 := j2.at_ 1
  have p2 := j2.at_ 2
  have p3 := j2.at_ 3
  have p4 := j2.at_ 4
  have p5 := j2.at_ 5
  have g0 : ∀ i, W2.frozen? ⟨N + 1, i, none⟩ = false := fun i => j2.free i
  simp at p0 p1 p2 p3 p4 p5
  have B3 := Lib.hid (HB2.out.trans (b2.mono (show N ≤ N + 1 + 1 by omega)))
  have T2 := Lib.hid t2
  clear j2 t2 b2
  go_wp2
  refine bodyPost_ret (v := .agg #[.int .i64 k1, .string nm1, .bool u1, .int .i64 r1, .slice R1 lr1 cr1, .slice A1 la1 ca1]) (by simp [results, Tryd.results54, go_sem, p0, p1, p2, p3, p4, p5]) rfl ⟨[.int .i64 k1, .string nm1, .bool u1, .int .i64 r1, .slice R1 lr1 cr1, .slice A1 la1 ca1], rfl, ?_, ?_⟩
  · refine T2.out.kept (fun b _ hq => ?_) (by simp [World.setCell]) (fun b _ hq => ?_)
    · simp only [qN, decide_eq_true_eq] at hq ⊢
      omega
    · simp only [qN, decide_eq_true_eq] at hq
      have hne : b ≠ N + 1 := by omega
      rw [Below.heap_setCell _ _ _ _ hne, Below.heap_setCell _ _ _ _ hne, Below.heap_setCell _ _ _ _ hne, Below.heap_setCell _ _ _ _ hne, Below.heap_setCell _ _ _ _ hne, Below.heap_setCell _ _ _ _ hne]
  · exact (((((B3.out.setCell (Nat.le_succ _) _).setCell (Nat.le_succ _) _).setCell (Nat.le_succ _) _).setCell (Nat.le_succ _) _).setCell (Nat.le_succ _) _).setCell (Nat.le_succ _) _
end Ts
end Go.Proofs.YtiljpnghahkjhaaDoor
