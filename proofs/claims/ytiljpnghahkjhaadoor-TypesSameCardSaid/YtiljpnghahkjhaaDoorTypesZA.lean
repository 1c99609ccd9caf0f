/- Layer 7: a type without regions. -/
import Derived.Test.YtiljpnghahkjhaaDoorTypesZ
namespace Go.Proofs.YtiljpnghahkjhaaDoor
open Go.RowKit Go.Deep Tr
namespace Ts
mutual
def eraseP : Ty → Ty
  | .mk k nm u r rs ar => .mk k nm u (regE k r) (rowE k rs) (eraseL ar)
def eraseL : List Ty → List Ty
  | [] => []
  | x :: l => eraseP x :: eraseL l
end
theorem eraseL_map : ∀ l : List Ty, eraseL l = l.map eraseP
  | [] => by rw [eraseL]; rfl
  | x :: l => by rw [eraseL, eraseL_map l]; rfl
theorem rowE_len (k : Int) (rs : List Int) : (rowE k rs).length = rs.length := by
  unfold rowE
  split
  · rw [List.length_map]
  · rfl
@[go_sem] theorem fn_nil (w : World) : (binOp .eql 30 (.func (.func 34) #[] #[]) .nilFunc).run Tryd.prog w = .ok (.bool false) w := by kernel_rfl
def MapE (n m : Nat) : Prop := ∀ (x : Ty) (cs : List Value) (X : World), TyAt X n x cs → Slim m x →
  Calls Tryd.prog 11 #[.agg cs.toArray, .func (.func 34) #[] #[]] X fun e W' => ∃ ds, e = .returned (.agg ds.toArray) ∧ TyAt (only (qN X.heap.size) W') n (eraseP x) ds ∧ Below X.heap.size X W'
set_option maxHeartbeats 8000000 in
set_option maxRecDepth 100000 in
theorem mapC_of (n m : Nat) (HM : Hid (MapE n m)) (c : Nat) (W0 : World) (_ : W0.heap.size ≤ c) : MapC n m c W0 eraseP := by
  intro x cs X h hb hE hs
  obtain ⟨k, nm, u, r, R, lr, cr, A, la, ca, rfl⟩ := h.shape
  obtain ⟨o1, ho1⟩ : ∃ o, Obj.cells #[.int .i64 k, .string nm, .bool u, .int .i64 r, .slice R lr cr, .slice A la ca] 25 = o := ⟨_, rfl⟩
  obtain ⟨o2, ho2⟩ : ∃ o, Obj.cells #[.int .i64 0, .string ⟨#[]⟩, .bool false, .int .i64 0, .slice none 0 0, .slice none 0 0] 25 = o := ⟨_, rfl⟩
  have B2 : Below X.heap.size X ((X.alloc o1).alloc o2) := ((Below.refl _ X).alloc (Nat.le_refl _) o1).alloc (by simp) o2
  have hN : (X.alloc o1).heap.size = X.heap.size + 1 := by simp
  have i2 : Is ((X.alloc o1).alloc o2) (X.heap.size + 1) 25 #[.int .i64 0, .string ⟨#[]⟩, .bool false, .int .i64 0, .slice none 0 0, .slice none 0 0] := by rw [← ho2]; exact hN ▸ Is.made (X.alloc o1) _ _
  have hS : ((X.alloc o1).alloc o2).heap.size = X.heap.size + 1 + 1 := by simp
  obtain ⟨V, hV⟩ : ∃ V, (X.alloc o1).alloc o2 = V := ⟨_, rfl⟩
  have HV : Hid ((X.alloc (.cells #[.int .i64 k, .string nm, .bool u, .int .i64 r, .slice R lr cr, .slice A la ca] 25)).alloc (.cells #[.int .i64 0, .string ⟨#[]⟩, .bool false, .int .i64 0, .slice none 0 0, .slice none 0 0] 25) = V) := by rw [← hV, ← ho1, ← ho2]; exact rfl
  have eV : ((X.alloc (.cells #[.int .i64 k, .string nm, .bool u, .int .i64 r, .slice R lr cr, .slice A la ca] 25)).alloc (.cells #[.int .i64 0, .string ⟨#[]⟩, .bool false, .int .i64 0, .slice none 0 0, .slice none 0 0] 25)).cell? ⟨c, 0, none⟩ = some (.func (.func 34) #[] #[]) := by
    have := (Is.alloc (Is.alloc hE (.cells #[.int .i64 k, .string nm, .bool u, .int .i64 r, .slice R lr cr, .slice A la ca] 25)) (.cells #[.int .i64 0, .string ⟨#[]⟩, .bool false, .int .i64 0, .slice none 0 0, .slice none 0 0] 25)).at_ 0
    rw [this]
    rfl
  rw [hV] at B2 i2 hS
  have hMM := HM.out x _ V (TyAt.below (hb.trans (B2.mono hb.size)) _ _ _ h) hs
  rw [hS] at hMM
  obtain ⟨N, hN0⟩ : ∃ N, X.heap.size = N := ⟨_, rfl⟩
  rw [hN0] at hMM i2 B2 hS ⊢
  have HMM := Lib.hid hMM
  have HN := Lib.hid hN0
  have I2 := Lib.hid i2
  have HB2 := Lib.hid B2
  have HS := Lib.hid hS
  clear h hb hE hs ho1 ho2 B2 hN i2 hS hV hMM hN0
  go_enter Tryd.func32, Tryd.ntmps32
  go_wp2_with fail
  rw [HV.out, HN.out]
  refine HMM.out.mono ?_
  rintro e W2 ⟨ds, rfl, t2, b2⟩
  obtain ⟨k1, nm1, u1, r1, R1, lr1, cr1, A1, la1, ca1, rfl⟩ := t2.shape
  have j2 := I2.out.below b2 (by omega)
  have p0 := j2.at_ 0
  have p1 := j2.at_ 1
  have p2 := j2.at_ 2
  have p3 := j2.at_ 3
  have p4 := j2.at_ 4
  have p5 := j2.at_ 5
  have g0 : ∀ i, W2.frozen? ⟨N + 1, i, none⟩ = false := fun i => j2.free i
  simp at p0 p1 p2 p3 p4 p5
  have B3 := Lib.hid (HB2.out.trans (b2.mono (show N ≤ N + 1 + 1 by omega)))
  have T2 := Lib.hid t2
  clear j2 t2 b2
  go_wp2
  refine bodyPost_ret (v := .agg #[.int .i64 k1, .string nm1, .bool u1, .int .i64 r1, .slice R1 lr1 cr1, .slice A1 la1 ca1]) (by simp [results, Tryd.results32, go_sem, p0, p1, p2, p3, p4, p5]) rfl ⟨[.int .i64 k1, .string nm1, .bool u1, .int .i64 r1, .slice R1 lr1 cr1, .slice A1 la1 ca1], rfl, ?_, ?_⟩
  · refine T2.out.kept (fun b _ hq => ?_) (by simp [World.setCell]) (fun b _ hq => ?_)
    · simp only [qN, decide_eq_true_eq] at hq ⊢
      omega
    · simp only [qN, decide_eq_true_eq] at hq
      have hne : b ≠ N + 1 := by omega
      rw [Below.heap_setCell _ _ _ _ hne, Below.heap_setCell _ _ _ _ hne, Below.heap_setCell _ _ _ _ hne, Below.heap_setCell _ _ _ _ hne, Below.heap_setCell _ _ _ _ hne, Below.heap_setCell _ _ _ _ hne]
  · exact (((((B3.out.setCell (Nat.le_succ _) _).setCell (Nat.le_succ _) _).setCell (Nat.le_succ _) _).setCell (Nat.le_succ _) _).setCell (Nat.le_succ _) _).setCell (Nat.le_succ _) _
end Ts
end Go.Proofs.YtiljpnghahkjhaaDoor
