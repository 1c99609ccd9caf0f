/- The walks of layer 1's reader of nothing. -/
import Derived.Test.YtccajbcblbfgnaaLexS
import Derived.Test.YtccajbcblbfgnaaLexK
import Derived.Defers
import Derived.Recover
import Derived.WalkLawsBesides
namespace Go.Proofs.Ytccajbcblbfgnaa
open Go.RowKit Lx
/-- A reader of nothing. -/
def none0 : Array Value := #[.slice none 0 0, .int .i64 0, .int .i64 0]
def pos0 : Array Value := #[.int .i64 0, .int .i64 0]
@[go_sem] theorem field_at (k t l c v : Value) (w : World) : (Instr.field 42 (.agg #[k, t, l, c, v]) 2).run Try.prog w = .ok (.agg #[l, c]) w := by kernel_rfl
@[go_sem] theorem nil_fn (w : World) : (binOp .eql 1 .nilFunc .nilFunc).run Try.prog w = .ok (.bool true) w := by kernel_rfl
theorem Is.ext {w w' : World} {b : Nat} {t : TypeId} {cs : Array Value} {o : Obj} (h : Is w b t cs) (hb : Below (w.alloc o).heap.size (w.alloc o) w') : Is w' b t cs := (h.alloc o).below hb (by have := h.lt; simp; omega)
theorem grown_new {a b c : World} {row : Option Nat} {E : Nat} (h : a.grownBy b row) (k : b.grownBy c (some E)) (hE : a.heap.size ≤ E) : a.grownBy c row :=
  ⟨k.os.trans h.os, k.tape.trans h.tape, k.output.trans h.output, Nat.le_trans h.size k.size, fun i hi hr => (k.block i (Nat.lt_of_lt_of_le hi h.size) (fun e => by injection e with e; omega)).trans (h.block i hi hr)⟩
theorem grown_of_below {w w' : World} (h : Below w.heap.size w w') (row : Option Nat) : w.grownBy w' row := ⟨h.os, h.tape, h.output, h.size, fun k hk _ => h.block k hk⟩
theorem peek_nil (w : World) : Calls Try.prog 26 #[.pointer none] w fun e w' => e = .returned (.agg #[.int .i64 0, .string ⟨#[]⟩, .int .i64 0, .int .i64 0, .int .u64 0]) ∧ Below w.heap.size w w' := by
  go_enter Try.func26, Try.ntmps26
  go_wp2
  exact bodyPost_ret (v := .agg #[.int .i64 0, .string ⟨#[]⟩, .int .i64 0, .int .i64 0, .int .u64 0]) (by simp [results, Try.results26, go_sem]) rfl ⟨rfl, (Below.refl _ _).alloc (Nat.le_refl _) _⟩
theorem peek_none (b : Nat) (w : World) (hr : Is w b 69 none0) : Calls Try.prog 26 #[.pointer (some ⟨b, 0, none⟩)] w fun e w' => e = .returned (.agg #[.int .i64 0, .string ⟨#[]⟩, .int .i64 0, .int .i64 0, .int .u64 0]) ∧ Below w.heap.size w w' := by
  have c0 := hr.at_ 0
  simp only [none0, List.getElem?_toArray, List.getElem?_cons_zero] at c0
  have hlt := hr.lt
  clear hr
  go_enter Try.func26, Try.ntmps26
  go_wp2
  exact bodyPost_ret (v := .agg #[.int .i64 0, .string ⟨#[]⟩, .int .i64 0, .int .i64 0, .int .u64 0]) (by simp [results, Try.results26, go_sem]) rfl ⟨rfl, (Below.refl _ _).alloc (Nat.le_refl _) _⟩
theorem next_nil (w : World) : Calls Try.prog 20 #[.pointer none] w fun e w' => e = .returned (.agg #[.int .i64 0, .string ⟨#[]⟩, .int .i64 0, .int .i64 0, .int .u64 0]) ∧ Below w.heap.size w w' := by
  go_enter Try.func20, Try.ntmps20
  go_wp2_with fail
  refine (peek_nil _).mono ?_
  rintro e w1 ⟨rfl, q1⟩
  have hi := (Is.made w 42 tok0).below q1 (by simp)
  have hz : w.heap.size < w1.heap.size := by have := q1.size; simp at this; omega
  have c0 := hi.at_ 0
  have c1 := hi.at_ 1
  have c2 := hi.at_ 2
  have c3 := hi.at_ 3
  have c4 := hi.at_ 4
  have f0 := hi.free 0
  have f1 := hi.free 1
  have f2 := hi.free 2
  have f3 := hi.free 3
  have f4 := hi.free 4
  simp only [tok0, pos0, List.getElem?_toArray, List.getElem?_cons_zero, List.getElem?_cons_succ] at c0 c1 c2 c3 c4
  have HQ := Lib.hid q1
  clear hi q1
  go_wp2
  refine bodyPost_ret (v := .agg #[.int .i64 0, .string ⟨#[]⟩, .int .i64 0, .int .i64 0, .int .u64 0]) (by simp [results, Try.results20, go_sem, c0, c1, c2, c3, c4, hz]) rfl ⟨rfl, ((((((((Below.refl _ _).alloc (Nat.le_refl _) _).trans (HQ.out.mono (by simp))).setCell (Nat.le_refl _) _).setCell (Nat.le_refl _) _).setCell (Nat.le_refl _) _).setCell (Nat.le_refl _) _).setCell (Nat.le_refl _) _).alloc (by have := hz; simp <;> omega) _⟩
theorem next_none (b : Nat) (w : World) (hr : Is w b 69 none0) : Calls Try.prog 20 #[.pointer (some ⟨b, 0, none⟩)] w fun e w' => e = .returned (.agg #[.int .i64 0, .string ⟨#[]⟩, .int .i64 0, .int .i64 0, .int .u64 0]) ∧ Below w.heap.size w w' := by
  have HR := Lib.hid hr
  clear hr
  go_enter Try.func20, Try.ntmps20
  go_wp2_with fail
  refine (peek_none b _ (HR.out.alloc _)).mono ?_
  rintro e w1 ⟨rfl, q1⟩
  have hi := (Is.made w 42 tok0).below q1 (by simp)
  have hz : w.heap.size < w1.heap.size := by have := q1.size; simp at this; omega
  have c0 := hi.at_ 0
  have c1 := hi.at_ 1
  have c2 := hi.at_ 2
  have c3 := hi.at_ 3
  have c4 := hi.at_ 4
  have f0 := hi.free 0
  have f1 := hi.free 1
  have f2 := hi.free 2
  have f3 := hi.free 3
  have f4 := hi.free 4
  simp only [tok0, pos0, List.getElem?_toArray, List.getElem?_cons_zero, List.getElem?_cons_succ] at c0 c1 c2 c3 c4
  have HQ := Lib.hid q1
  clear hi q1
  go_wp2
  refine bodyPost_ret (v := .agg #[.int .i64 0, .string ⟨#[]⟩, .int .i64 0, .int .i64 0, .int .u64 0]) (by simp [results, Try.results20, go_sem, c0, c1, c2, c3, c4, hz]) rfl ⟨rfl, ((((((((Below.refl _ _).alloc (Nat.le_refl _) _).trans (HQ.out.mono (by simp))).setCell (Nat.le_refl _) _).setCell (Nat.le_refl _) _).setCell (Nat.le_refl _) _).setCell (Nat.le_refl _) _).setCell (Nat.le_refl _) _).alloc (by have := hz; simp <;> omega) _⟩
theorem at_nil (w : World) : Calls Try.prog 22 #[.pointer none] w fun e w' => e = .returned (.agg #[.int .i64 0, .int .i64 0]) ∧ Below w.heap.size w w' := by
  go_enter Try.func22, Try.ntmps22
  go_wp2_with fail
  refine (peek_nil _).mono ?_
  rintro e w1 ⟨rfl, q1⟩
  have hi := (Is.made w 26 pos0).below q1 (by simp)
  have c0 := hi.at_ 0
  have c1 := hi.at_ 1
  have f0 := hi.free 0
  have f1 := hi.free 1
  simp only [pos0, List.getElem?_toArray, List.getElem?_cons_zero, List.getElem?_cons_succ] at c0 c1
  have HQ := Lib.hid q1
  clear hi q1
  go_wp2
  refine bodyPost_ret (v := .agg #[.int .i64 0, .int .i64 0]) (by simp [results, Try.results22, go_sem, c0, c1]) rfl ⟨rfl, ((((Below.refl _ _).alloc (Nat.le_refl _) _).trans (HQ.out.mono (by simp))).setCell (Nat.le_refl _) _).setCell (Nat.le_refl _) _⟩
theorem at_none (b : Nat) (w : World) (hr : Is w b 69 none0) : Calls Try.prog 22 #[.pointer (some ⟨b, 0, none⟩)] w fun e w' => e = .returned (.agg #[.int .i64 0, .int .i64 0]) ∧ Below w.heap.size w w' := by
  have HR := Lib.hid hr
  clear hr
  go_enter Try.func22, Try.ntmps22
  go_wp2_with fail
  refine (peek_none b _ (HR.out.alloc _)).mono ?_
  rintro e w1 ⟨rfl, q1⟩
  have hi := (Is.made w 26 pos0).below q1 (by simp)
  have c0 := hi.at_ 0
  have c1 := hi.at_ 1
  have f0 := hi.free 0
  have f1 := hi.free 1
  simp only [pos0, List.getElem?_toArray, List.getElem?_cons_zero, List.getElem?_cons_succ] at c0 c1
  have HQ := Lib.hid q1
  clear hi q1
  go_wp2
  refine bodyPost_ret (v := .agg #[.int .i64 0, .int .i64 0]) (by simp [results, Try.results22, go_sem, c0, c1]) rfl ⟨rfl, ((((Below.refl _ _).alloc (Nat.le_refl _) _).trans (HQ.out.mono (by simp))).setCell (Nat.le_refl _) _).setCell (Nat.le_refl _) _⟩
theorem sees_nil (w : World) (s : ByteArray) : Calls Try.prog 27 #[.pointer none, .string s] w fun e w' => e = .returned (.bool false) ∧ Below w.heap.size w w' := by
  by_cases hs : s.toList = []
  · have hs1 : (([] : List UInt8) == s.toList) = true := by rw [hs]; rfl
    have hs2 : (s.toList == []) = true := by rw [hs]; rfl
    have hs3 : s.toList.isEmpty = true := by rw [hs]; rfl
    clear hs
    go_enter Try.func27, Try.ntmps27
    go_wp2_with fail
    refine (peek_nil _).mono ?_
    rintro e w1 ⟨rfl, q1⟩
    go_wp2
    go_ret
    exact ⟨rfl, q1.alloc q1.size _⟩
  · have hs1 : (([] : List UInt8) == s.toList) = false := by rw [beq_eq_false_iff_ne]; exact fun h => hs h.symm
    have hs2 : (s.toList == []) = false := by rw [beq_eq_false_iff_ne]; exact hs
    have hs3 : s.toList.isEmpty = false := by cases h : s.toList with | nil => exact absurd h hs | cons a r => rfl
    clear hs
    go_enter Try.func27, Try.ntmps27
    go_wp2_with fail
    refine (peek_nil _).mono ?_
    rintro e w1 ⟨rfl, q1⟩
    go_wp2
    go_ret
    exact ⟨rfl, q1.alloc q1.size _⟩
theorem sees_none (b : Nat) (w : World) (hr : Is w b 69 none0) (s : ByteArray) : Calls Try.prog 27 #[.pointer (some ⟨b, 0, none⟩), .string s] w fun e w' => e = .returned (.bool false) ∧ Below w.heap.size w w' := by
  have HR := Lib.hid hr
  clear hr
  by_cases hs : s.toList = []
  · have hs1 : (([] : List UInt8) == s.toList) = true := by rw [hs]; rfl
    have hs2 : (s.toList == []) = true := by rw [hs]; rfl
    have hs3 : s.toList.isEmpty = true := by rw [hs]; rfl
    clear hs
    go_enter Try.func27, Try.ntmps27
    go_wp2_with fail
    refine (peek_none b _ HR.out).mono ?_
    rintro e w1 ⟨rfl, q1⟩
    go_wp2
    go_ret
    exact ⟨rfl, q1.alloc q1.size _⟩
  · have hs1 : (([] : List UInt8) == s.toList) = false := by rw [beq_eq_false_iff_ne]; exact fun h => hs h.symm
    have hs2 : (s.toList == []) = false := by rw [beq_eq_false_iff_ne]; exact hs
    have hs3 : s.toList.isEmpty = false := by cases h : s.toList with | nil => exact absurd h hs | cons a r => rfl
    clear hs
    go_enter Try.func27, Try.ntmps27
    go_wp2_with fail
    refine (peek_none b _ HR.out).mono ?_
    rintro e w1 ⟨rfl, q1⟩
    go_wp2
    go_ret
    exact ⟨rfl, q1.alloc q1.size _⟩
theorem is_none (b : Nat) (w : World) (hr : Is w b 69 none0) (s : ByteArray) : Calls Try.prog 21 #[.pointer (some ⟨b, 0, none⟩), .string s] w fun e w' => e = .returned (.bool false) ∧ Below w.heap.size w w' := by
  have HR := Lib.hid hr
  clear hr
  go_enter Try.func21, Try.ntmps21
  go_wp2_with fail
  refine (sees_none b _ HR.out s).mono ?_
  rintro e w1 ⟨rfl, q1⟩
  go_wp2
  go_ret
  exact ⟨rfl, q1⟩
/-- Nothing is deeper in nothing. -/
theorem deep_nil (f : Value) (w : World) : Calls Try.prog 23 #[.pointer none, f] w fun e w' => e = .returned (.tuple #[]) ∧ Below w.heap.size w w' := by
  go_enter_defers Try.func23, Try.ntmps23
  go_wp2
  simp [Leaves, bodyPostD, results, Try.results23, go_sem]
  exact (Below.refl _ _).alloc (Nat.le_refl _) _
theorem deep_none (b : Nat) (w : World) : Calls Try.prog 23 #[.pointer (some ⟨b, 0, none⟩), .nilFunc] w fun e w' => e = .returned (.tuple #[]) ∧ Below w.heap.size w w' := by
  go_enter_defers Try.func23, Try.ntmps23
  go_wp2
  simp [Leaves, bodyPostD, results, Try.results23, go_sem]
  exact (Below.refl _ _).alloc (Nat.le_refl _) _
/-- What a reader that can't go on panics with. -/
def gave (c : Nat) : Value := .iface 66 (.agg #[.int .i64 c, .int .i64 0, .int .i64 0])
theorem fail_none (b c : Nat) (w : World) (hr : Is w b 69 none0) : Calls Try.prog 35 #[.pointer (some ⟨b, 0, none⟩), .int .i64 c] w fun e w' => e = .panicked [{ v := gave c, recovered := false }] ∧ Below w.heap.size w w' := by
  have HR := Lib.hid hr
  clear hr
  go_enter Try.func35, Try.ntmps35
  go_wp2_with fail
  refine (at_none b _ HR.out).mono ?_
  rintro e w1 ⟨rfl, q1⟩
  go_wp2
  exact ⟨rfl, rfl, q1⟩
theorem name_none (b : Nat) (w : World) (hr : Is w b 69 none0) : Calls Try.prog 24 #[.pointer (some ⟨b, 0, none⟩)] w fun e w' => e = .panicked [{ v := gave 1, recovered := false }] ∧ Below w.heap.size w w' := by
  have HR := Lib.hid hr
  clear hr
  go_enter Try.func24, Try.ntmps24
  go_wp2_with fail
  refine (peek_none b _ HR.out).mono ?_
  rintro e w1 ⟨rfl, q1⟩
  go_wp2_with fail
  refine (fail_none b 1 _ ((HR.out.below q1 HR.out.lt).alloc _)).mono ?_
  rintro e w2 ⟨rfl, q2⟩
  exact ⟨rfl, rfl, (q1.alloc q1.size _).trans (q2.mono (by have := q1.size; simp <;> omega))⟩
/-- What the law's function does with a reader of nothing. -/
theorem nils1_any (rb tb sb : Nat) (s : ByteArray) (w : World) (hr : Is w rb 69 none0) (ht : Is w tb 9 #[.string s]) (hs : Is w sb 3 #[.int .i64 0]) :
    Calls Try.prog 19 #[.pointer (some ⟨rb, 0, none⟩), .pointer (some ⟨tb, 0, none⟩), .pointer (some ⟨sb, 0, none⟩)] w fun e w' => e = .panicked [{ v := gave 1, recovered := false }] ∧ Is w' sb 3 #[.int .i64 1] ∧ w.grownBy w' (some sb) := by
  have HR := Lib.hid hr
  have HT := Lib.hid ht
  have HS := Lib.hid hs
  clear hr ht hs
  go_enter Try.func19, Try.ntmps19
  go_wp2_with fail
  refine (next_none rb _ HR.out).mono ?_
  rintro e w1 ⟨rfl, q1⟩
  have HR1 := Lib.hid (HR.out.below q1 HR.out.lt)
  have HT1 := Lib.hid (HT.out.below q1 HT.out.lt)
  have HS1 := Lib.hid (HS.out.below q1 HS.out.lt)
  have t0 := HT1.out.at_ 0
  simp only [List.getElem?_toArray, List.getElem?_cons_zero] at t0
  have Q1 := Lib.hid q1
  clear q1
  go_wp2_with fail
  refine (is_none rb _ HR1.out s).mono ?_
  rintro e w2 ⟨rfl, q2⟩
  have HR2 := Lib.hid (HR1.out.below q2 HR1.out.lt)
  have HS2 := Lib.hid (HS1.out.below q2 HS1.out.lt)
  have Q2 := Lib.hid (Q1.out.trans (q2.mono Q1.out.size))
  clear q2 t0
  go_wp2_with fail
  refine (at_none rb _ HR2.out).mono ?_
  rintro e w3 ⟨rfl, q3⟩
  have HR3 := Lib.hid (HR2.out.below q3 HR2.out.lt)
  have HS3 := Lib.hid (HS2.out.below q3 HS2.out.lt)
  have Q3 := Lib.hid (Q2.out.trans (q3.mono Q2.out.size))
  have s0 := HS3.out.at_ 0
  have f0 := HS3.out.free 0
  simp only [List.getElem?_toArray, List.getElem?_cons_zero] at s0
  clear q3
  go_wp2_with fail
  have hne : rb ≠ sb := by
    intro h
    subst h
    have a := HR3.out
    have b := HS3.out
    unfold Is at a b
    rw [a] at b
    injection b with b
    injection b with _ b
    exact absurd b (by decide)
  refine (deep_none rb _).mono ?_
  rintro e w4 ⟨rfl, q4⟩
  have HR4 := Lib.hid ((HR3.out.aside (p := ⟨sb, 0, none⟩) hne (.int .i64 1)).below q4 (by have := HR3.out.lt; simpa using this))
  have HS4 := Lib.hid ((HS3.out.put 0 (.int .i64 1)).below q4 (by have := HS3.out.lt; simpa using this))
  have G4 := Lib.hid (((grown_of_below Q3.out (some sb)).trans ((But.refl sb w3).put 0 (.int .i64 1)).grown).trans (grown_of_below q4 (some sb)))
  clear q4 s0 f0 hne
  go_wp2_with fail
  refine (name_none rb _ HR4.out).mono ?_
  rintro e w5 ⟨rfl, q5⟩
  refine ⟨rfl, rfl, ?_, G4.out.trans (grown_of_below q5 (some sb))⟩
  exact HS4.out.below q5 HS4.out.lt
theorem catch_gave (E c : Nat) (older : List PanicEntry) (w : World) (hi : Is w E 28 #[.int .i64 0, .int .i64 0, .int .i64 0]) :
    CallsD Try.prog 33 #[.pointer (some ⟨E, 0, none⟩)] (.panicking ({ v := gave c, recovered := false } :: older)) w fun e u' w' =>
      e = .returned (.tuple #[]) ∧ u' = .panicking ({ v := gave c, recovered := true } :: older) ∧ Is w' E 28 #[.int .i64 c, .int .i64 0, .int .i64 0] ∧ w.grownBy w' (some E) := by
  have c0 := hi.at_ 0
  have c1 := hi.at_ 1
  have c2 := hi.at_ 2
  have f0 := hi.free 0
  have f1 := hi.free 1
  have f2 := hi.free 2
  have hlt := hi.lt
  simp only [List.getElem?_toArray, List.getElem?_cons_zero, List.getElem?_cons_succ] at c0 c1 c2
  have HI := Lib.hid hi
  clear hi
  refine callsD_of_wpS Try.func33 rfl fun c₀ cs hu => ?_
  have hta : ∀ (v : Value) (w : World), (Instr.typeAssert (.iface 66 v) 20 66 true).run Try.prog w = .ok (.tuple #[v, .bool true]) w := fun _ _ => by kernel_rfl
  have ht : (#[.pointer (some ⟨E, 0, none⟩)] : Array Value) ++ Array.replicate (Try.f33.ntmps - (#[.pointer (some ⟨E, 0, none⟩)] : Array Value).size) undef = #[.pointer (some ⟨E, 0, none⟩), undef, undef, undef, undef, undef, undef, undef, undef, undef, undef, undef] := by kernel_rfl
  rw [ht]
  clear ht
  apply wpS_seq
  apply wpS_region
  unfold gave at hu ⊢
  simp [wpOpsS, go_sem, recoverD, hu, Try.ntmps33, Exit.thenS]
  refine wpS_of_wp ?_
  go_wp2
  simp [bodyPostS, results, Try.results33]
  refine ⟨?_, ?_⟩
  · have := ((((HI.out.put 0 (.int .i64 c)).put 1 (.int .i64 0)).put 2 (.int .i64 0)).alloc (.cells #[.int .i64 c, .int .i64 0, .int .i64 0] 66))
    simpa using this
  · exact ((((But.refl E w).put 0 _).put 1 _).put 2 _).grown.trans (World.grownBy_alloc _ _ _)
theorem clone_nil (w : World) : Calls Try.prog 34 #[.slice none 0 0] w fun e w' => e = .returned (.slice none 0 0) ∧ w = w' := by
  have hsn : ∀ w : World, (binOp .eql 23 (.slice none 0 0) (.slice none 0 0)).run Try.prog w = .ok (.bool true) w := fun _ => by kernel_rfl
  go_enter Try.func34, Try.ntmps34
  go_wp2
  go_ret
  exact ⟨rfl, rfl⟩
theorem read_nils (tb sb : Nat) (s : ByteArray) (w : World) (ht : Is w tb 9 #[.string s]) (hs : Is w sb 3 #[.int .i64 0]) :
    Calls Try.prog 18 #[.slice none 0 0, .func (.func 19) #[] #[.pointer (some ⟨tb, 0, none⟩), .pointer (some ⟨sb, 0, none⟩)]] w fun e w' => e = .returned (.agg #[.int .i64 1, .int .i64 0, .int .i64 0]) ∧ Is w' sb 3 #[.int .i64 1] ∧ w.grownBy w' (some sb) := by
  have hmf : ∀ (fn : Fn) (first cap : Array Value) (w : World), (Instr.makeFunc fn first cap).run Try.prog w = .ok (.func fn first cap) w := fun _ _ _ _ => rfl
  have hfn : ∀ (cap : Array Value) (w : World), (binOp .eql 54 (.func (.func 19) #[] cap) .nilFunc).run Try.prog w = .ok (.bool false) w := fun _ _ => by kernel_rfl
  have HT := Lib.hid ht
  have HS := Lib.hid hs
  clear ht hs
  go_enter_defers Try.func18, Try.ntmps18
  go_wp2_with fail
  refine (clone_nil _).mono ?_
  rintro e w1 ⟨rfl, rfl⟩
  go_wp2_with fail
  have hr := Is.made (w.alloc (.cells #[.int .i64 0, .int .i64 0, .int .i64 0] 28)) 69 none0
  rw [show (w.alloc (.cells #[.int .i64 0, .int .i64 0, .int .i64 0] 28)).heap.size = w.heap.size + 1 from by simp] at hr
  refine (nils1_any _ tb sb s _ hr ((HT.out.alloc _).alloc _) ((HS.out.alloc _).alloc _)).mono ?_
  rintro e w2 ⟨rfl, hs2, hg2⟩
  have hsl := HS.out.lt
  have hE := ((Is.made w 28 #[.int .i64 0, .int .i64 0, .int .i64 0]).alloc (.cells none0 69)).grown hg2 (by simp; omega)
  have hg := ((World.grownBy_alloc w (.cells #[.int .i64 0, .int .i64 0, .int .i64 0] 28) (some sb)).trans (World.grownBy_alloc _ (.cells none0 69) (some sb))).trans hg2
  refine leaves_cons (f := 33) (args := #[.pointer (some ⟨w.heap.size, 0, none⟩)]) (by simp) (by simp [go_sem]) ?_
  refine (catch_gave w.heap.size 1 [] _ hE).mono ?_
  rintro e u' w3 ⟨rfl, rfl, hE3, hg3⟩
  have e0 := hE3.at_ 0
  have e1 := hE3.at_ 1
  have e2 := hE3.at_ 2
  simp only [List.getElem?_toArray, List.getElem?_cons_zero, List.getElem?_cons_succ] at e0 e1 e2
  simp [Leaves, settle, results, Try.results18, go_sem, e0, e1, e2]
  exact ⟨hs2.grown hg3 (by simp; omega), grown_new hg hg3 (Nat.le_refl _)⟩
theorem read_none (w : World) : Calls Try.prog 18 #[.slice none 0 0, .nilFunc] w fun e w' => e = .returned (.agg #[.int .i64 0, .int .i64 0, .int .i64 0]) ∧ Below w.heap.size w w' := by
  have hfn : ∀ w : World, (binOp .eql 54 .nilFunc .nilFunc).run Try.prog w = .ok (.bool true) w := fun _ => by kernel_rfl
  go_enter_defers Try.func18, Try.ntmps18
  go_wp2
  simp [Leaves, bodyPostD, results, Try.results18, go_sem]
  exact (Below.refl _ _).alloc (Nat.le_refl _) _
theorem lexNils_walk (s : ByteArray) (hs : s.size ≤ maxLen) (w : World) :
    Calls Try.prog 7 #[.string s] w fun e w' => e = .returned (.bool true) ∧ Below w.heap.size w w' := by
  have hmf : ∀ (fn : Fn) (first cap : Array Value) (w : World), (Instr.makeFunc fn first cap).run Try.prog w = .ok (.func fn first cap) w := fun _ _ _ _ => rfl
  go_enter Try.func7, Try.ntmps7
  go_wp2_with fail
  have hs0 := Is.made (w.alloc (.cells #[.string s] 9)) 3 #[.int .i64 0]
  rw [show (w.alloc (.cells #[.string s] 9)).heap.size = w.heap.size + 1 from by simp] at hs0
  refine (read_nils w.heap.size (w.heap.size + 1) s _ ((Is.made w 9 #[.string s]).alloc _) hs0).mono ?_
  rintro e w1 ⟨rfl, hs1, g1⟩
  have ht1 := ((Is.made w 9 #[.string s]).alloc (.cells #[.int .i64 0] 3)).grown g1 (by simp)
  have q1 := (((Below.refl w.heap.size w).alloc (Nat.le_refl _) (.cells #[.string s] 9)).alloc (by simp) (.cells #[.int .i64 0] 3)).grown g1 (by simp; omega) (fun k hk => by injection hk with hk; omega)
  have HS1 := Lib.hid hs1
  have HT1 := Lib.hid ht1
  have Q1 := Lib.hid q1
  clear hs0 hs1 ht1 g1 q1
  go_wp2_with fail
  refine (deep_nil _ _).mono ?_
  rintro e w2 ⟨rfl, q2⟩
  go_wp2_with fail
  refine (cut_any _).mono ?_
  rintro e w3 ⟨rfl, q3⟩
  have q23 := q2.trans (q3.mono q2.size)
  have hi := (Is.made w1 28 #[.int .i64 1, .int .i64 0, .int .i64 0]).below q23 (by simp)
  have q13 := ((Below.refl w1.heap.size w1).alloc (Nat.le_refl _) (.cells #[.int .i64 1, .int .i64 0, .int .i64 0] 28)).trans (q23.mono (by simp))
  have hs3 := HS1.out.below q13 HS1.out.lt
  have HT3 := Lib.hid (HT1.out.below q13 HT1.out.lt)
  have Q3 := Lib.hid (Q1.out.trans (q13.mono Q1.out.size))
  have c0 := hi.at_ 0
  have c1 := hi.at_ 1
  have c2 := hi.at_ 2
  have s0 := hs3.at_ 0
  simp only [List.getElem?_toArray, List.getElem?_cons_zero, List.getElem?_cons_succ] at c0 c1 c2 s0
  clear hi q23 q13 q2 q3 hs3
  go_wp2_with fail
  refine (peek_nil _).mono ?_
  rintro e w4 ⟨rfl, q4⟩
  have HT4 := Lib.hid (HT3.out.below q4 HT3.out.lt)
  have Q4 := Lib.hid (Q3.out.trans (q4.mono Q3.out.size))
  clear c0 c1 c2 s0 q4
  go_wp2_with fail
  refine (next_nil _).mono ?_
  rintro e w5 ⟨rfl, q5⟩
  have HT5 := Lib.hid (HT4.out.below q5 HT4.out.lt)
  have Q5 := Lib.hid (Q4.out.trans (q5.mono Q4.out.size))
  have t0 := HT5.out.at_ 0
  simp only [List.getElem?_toArray, List.getElem?_cons_zero] at t0
  clear q5
  go_wp2_with fail
  refine (sees_nil _ s).mono ?_
  rintro e w6 ⟨rfl, q6⟩
  have Q6 := Lib.hid (Q5.out.trans (q6.mono Q5.out.size))
  clear q6 t0
  go_wp2_with fail
  refine (at_nil _).mono ?_
  rintro e w7 ⟨rfl, q7⟩
  have Q7 := Lib.hid (Q6.out.trans (q7.mono Q6.out.size))
  clear q7
  go_wp2_with fail
  refine (read_none _).mono ?_
  rintro e w8 ⟨rfl, q8⟩
  have Q8 := Lib.hid (Q7.out.trans (q8.mono Q7.out.size))
  clear q8
  go_wp2_with fail
  go_ret
  exact ⟨rfl, Q8.out⟩
end Go.Proofs.Ytccajbcblbfgnaa
