/- Layer 13: a use of a pointer, of what must be whole. -/
import Derived.Test.YtbhjdpaicfnfcaaHeapH
namespace Go.Proofs.Ytbhjdpaicfnfcaa
open Go.RowKit Go.Deep Tr
namespace Hp
/-- A cell's block: a value's cells, and its rights. -/
def cellC (vs : List Value) (g n cap : Nat) : Array Value := (vs ++ [Value.slice (some ⟨g, 0, none⟩) n cap]).toArray
/-- What a use leaves. -/
structure Used (w w' : World) (cb g cap : Nat) (vs : List Value) (S : List Hd) : Prop where
  cell : Is w' cb 78 (cellC vs g S.length cap)
  stk : Stk w' g cap S
  mod : Mod (fun k => k = cb ∨ k = g) w w'
/-- An allocation with rights. -/
structure Al (w : World) (cb g cap : Nat) (vs : List Value) (S : List Hd) : Prop where
  cell : Is w cb 78 (cellC vs g S.length cap)
  stk : Stk w g cap S
  seven : vs.length = 7
  few : S.length ≤ 900
  rise : ∀ i j (hi : i < S.length) (hj : j < S.length), i ≤ j → S[i].tag ≤ S[j].tag
theorem seven {vs : List Value} (h : vs.length = 7) : ∃ v0 v1 v2 v3 v4 v5 v6, vs = [v0, v1, v2, v3, v4, v5, v6] := by
  match vs, h with
  | [v0, v1, v2, v3, v4, v5, v6], _ => exact ⟨_, _, _, _, _, _, _, rfl⟩
theorem Al.below {w w' : World} {cb g cap : Nat} {vs : List Value} {S : List Hd} (h : Al w cb g cap vs S) (hb : Below w.heap.size w w') : Al w' cb g cap vs S :=
  ⟨h.cell.below hb h.cell.lt, h.stk.below hb, h.seven, h.few, h.rise⟩
set_option maxHeartbeats 8000000
set_option maxRecDepth 100000
theorem huse_any {w : World} {hb mb : Nat} {most : Int} {made tags n m : Nat} {f : Int → Option Value} (h : HpAt w hb mb most true made tags n m f) {al : Int} (hw : (Lit.int .i64 al).wf = true) {cb g cap : Nat} (hf : f al = some (.pointer (some ⟨cb, 0, none⟩)))
    {vs : List Value} {S : List Hd} (ha : Al w cb g cap vs S) (tg : Int) {A : Option Addr} {c : Nat} {pa : List Int} (hp : PathAt w A pa) (hcc : pa.length ≤ c) (wt : Bool) :
    Calls Try.prog 31 #[.pointer (some ⟨hb, 0, none⟩), .agg #[.int .i64 al, .slice A pa.length c, .int .i64 tg], .bool wt] w fun e w' => ∃ p b, Srch S tg p b ∧
      ((useOk S pa wt p b = false ∧ (∃ cv, e = .returned (.tuple #[cv, .int .i64 2])) ∧ Below w.heap.size w w') ∨
       (useOk S pa wt p b = true ∧ e = .returned (.tuple #[.pointer (some ⟨cb, 0, none⟩), .int .i64 0]) ∧ Used w w' cb g cap vs (left S pa wt p))) := by
  obtain ⟨v0, v1, v2, v3, v4, v5, v6, rfl⟩ := seven ha.seven
  have B1 : Below w.heap.size w (w.alloc (.cells #[.int .i64 al, .slice A pa.length c, .int .i64 tg] 29)) := (Below.refl _ w).alloc (Nat.le_refl _) _
  have HF := Lib.hid (find_any (h.below B1) al hw cb hf)
  have h1 := (h.below B1).head.at_ 1
  simp at h1
  have hu := cuse_any (w := w.alloc (.cells #[.int .i64 al, .slice A pa.length c, .int .i64 tg] 29)) (show Is _ cb 78 #[v0, v1, v2, v3, v4, v5, v6, .slice (some ⟨g, 0, none⟩) S.length cap] from (ha.below B1).cell) (ha.below B1).stk ha.few ha.rise al tg (hp.below B1) hcc wt
  have HU := Lib.hid hu
  have HB := Lib.hid B1
  clear h ha hp hf hw hu B1
  go_enter Try.func31, Try.ntmps31
  go_wp2_with fail
  refine HF.out.mono ?_
  rintro e w1 ⟨rfl, rfl⟩
  go_wp2_with fail
  refine HU.out.mono ?_
  rintro e w2 ⟨p, b, hs, hc⟩
  rcases hc with ⟨h1, rfl, h3⟩ | ⟨h1, rfl, h3, h4, h5⟩
  · have HE : Hid (Srch S tg p b ∧ useOk S pa wt p b = false ∧ Below w.heap.size w w2) := ⟨hs, h1, HB.out.trans (h3.mono HB.out.size)⟩
    clear hs h1 h3
    go_wp2
    refine bodyPost_ret (v := .tuple #[.pointer (some ⟨cb, 0, none⟩), .int .i64 2]) (by simp [results, Try.results31]) rfl ⟨p, b, HE.out.1, .inl ⟨HE.out.2.1, ⟨_, rfl⟩, HE.out.2.2⟩⟩
  · have HE : Hid (Srch S tg p b ∧ useOk S pa wt p b = true ∧ Used w w2 cb g cap [v0, v1, v2, v3, v4, v5, v6] (left S pa wt p)) := ⟨hs, h1, h3, h4, (Mod.of HB.out).trans (h5.mono fun _ _ h => h)⟩
    clear hs h1 h3 h4 h5
    go_wp2
    refine bodyPost_ret (v := .tuple #[.pointer (some ⟨cb, 0, none⟩), .int .i64 0]) (by simp [results, Try.results31]) rfl ⟨p, b, HE.out.1, .inr ⟨HE.out.2.1, rfl, HE.out.2.2⟩⟩
theorem huse_none {w : World} {hb mb : Nat} {most : Int} {watch : Bool} {made tags n m : Nat} {f : Int → Option Value} (h : HpAt w hb mb most watch made tags n m f) {al : Int} (hw : (Lit.int .i64 al).wf = true) (hf : f al = none) (A : Option Addr) (l c : Nat) (tg : Int) (wt : Bool) :
    Calls Try.prog 31 #[.pointer (some ⟨hb, 0, none⟩), .agg #[.int .i64 al, .slice A l c, .int .i64 tg], .bool wt] w fun e w' => e = .returned (.tuple #[.pointer none, .int .i64 1]) ∧ Below w.heap.size w w' := by
  have B1 : Below w.heap.size w (w.alloc (.cells #[.int .i64 al, .slice A l c, .int .i64 tg] 29)) := (Below.refl _ w).alloc (Nat.le_refl _) _
  have HF := Lib.hid (find_none (h.below B1) al hw hf)
  have HB := Lib.hid B1
  clear h hf hw B1
  go_enter Try.func31, Try.ntmps31
  go_wp2_with fail
  refine HF.out.mono ?_
  rintro e w1 ⟨rfl, rfl⟩
  go_wp2
  refine bodyPost_ret (v := .tuple #[.pointer none, .int .i64 1]) (by simp [results, Try.results31]) rfl ⟨rfl, HB.out⟩
theorem huse_nil (w : World) (al : Int) (A : Option Addr) (l c : Nat) (tg : Int) (wt : Bool) :
    Calls Try.prog 31 #[.pointer none, .agg #[.int .i64 al, .slice A l c, .int .i64 tg], .bool wt] w fun e w' => e = .returned (.tuple #[.pointer none, .int .i64 1]) ∧ Below w.heap.size w w' := by
  go_enter Try.func31, Try.ntmps31
  go_wp2_with fail
  refine (find_nil _ _).mono ?_
  rintro e w1 ⟨rfl, rfl⟩
  go_wp2
  refine bodyPost_ret (v := .tuple #[.pointer none, .int .i64 1]) (by simp [results, Try.results31]) rfl ⟨rfl, (Below.refl _ w).alloc (Nat.le_refl _) _⟩
/-- What a path tells: a part's address, and its cells, whole. -/
structure Place (w : World) (cb g : Nat) (vs : List Value) (A : Option Addr) (c : Nat) (pa : List Int) (ab ao : Nat) (cs : List Value) : Prop where
  part : ∀ X n cap, Is X cb 78 (cellC vs g n cap) → Mod (fun k => k = cb ∨ k = g) w X → Calls Try.prog 32 #[.pointer (some ⟨cb, 0, none⟩), .slice A pa.length c] X fun e w' => e = .returned (.tuple #[.pointer (some ⟨ab, ao, none⟩), .int .i64 0]) ∧ X = w'
  cells : ∀ X n cap, Is X cb 78 (cellC vs g n cap) → Mod (fun k => k = cb ∨ k = g) w X → ∀ j u, cs[j]? = some u → X.cell? ⟨ab, ao + j, none⟩ = some u
  whole : ∀ X n cap, Is X cb 78 (cellC vs g n cap) → Mod (fun k => k = cb ∨ k = g) w X → Calls Try.prog 48 #[.agg cs.toArray] X fun e w' => e = .returned (.bool true) ∧ Below X.heap.size X w'
  seven : cs.length = 7
theorem whole_any {w : World} {hb mb : Nat} {most : Int} {made tags n m : Nat} {f : Int → Option Value} (h : HpAt w hb mb most true made tags n m f) {al : Int} (hw : (Lit.int .i64 al).wf = true) {cb g cap : Nat} (hf : f al = some (.pointer (some ⟨cb, 0, none⟩)))
    {vs : List Value} {S : List Hd} (ha : Al w cb g cap vs S) (tg : Int) {A : Option Addr} {c : Nat} {pa : List Int} (hp : PathAt w A pa) (hcc : pa.length ≤ c) (wt : Bool) {ab ao : Nat} {cs : List Value} (hpl : Place w cb g vs A c pa ab ao cs) :
    Calls Try.prog 29 #[.pointer (some ⟨hb, 0, none⟩), .agg #[.int .i64 al, .slice A pa.length c, .int .i64 tg], .bool wt] w fun e w' => ∃ p b, Srch S tg p b ∧
      ((useOk S pa wt p b = false ∧ e = .returned (.tuple #[.pointer none, .pointer none, .int .i64 2]) ∧ Below w.heap.size w w') ∨
       (useOk S pa wt p b = true ∧ e = .returned (.tuple #[.pointer (some ⟨cb, 0, none⟩), .pointer (some ⟨ab, ao, none⟩), .int .i64 0]) ∧ Used w w' cb g cap vs (left S pa wt p))) := by
  obtain ⟨c0, c1, c2, c3, c4, c5, c6, rfl⟩ := seven hpl.seven
  have B1 : Below w.heap.size w (w.alloc (.cells #[.int .i64 al, .slice A pa.length c, .int .i64 tg] 29)) := (Below.refl _ w).alloc (Nat.le_refl _) _
  have HU := Lib.hid (huse_any (h.below B1) hw hf (ha.below B1) tg (hp.below B1) hcc wt)
  have HP := Lib.hid hpl
  have HB := Lib.hid B1
  obtain ⟨lp, hlp⟩ : ∃ x, pa.length = x := ⟨_, rfl⟩
  have p1 : (w.alloc (.cells #[.int .i64 al, .slice A lp c, .int .i64 tg] 29)).cell? ⟨w.heap.size, 1, none⟩ = some (.slice A lp c) := (Is.made w 29 #[.int .i64 al, .slice A lp c, .int .i64 tg]).at_ 1
  have IP : Hid (Is (w.alloc (.cells #[.int .i64 al, .slice A lp c, .int .i64 tg] 29)) w.heap.size 29 #[.int .i64 al, .slice A lp c, .int .i64 tg]) := Is.made w _ _
  have HC := Lib.hid ha.cell
  obtain ⟨cur, hg, _⟩ := ha.stk.cells
  have HG := Lib.hid (And.intro ha.cell.lt hg.lt)
  rw [hlp] at HU HB ⊢
  have HLP := Lib.hid hlp
  clear h ha hp hf hw hpl B1 hlp hg
  go_enter Try.func29, Try.ntmps29
  go_wp2_with fail
  refine HU.out.mono ?_
  rintro e w2 ⟨p, b, hs, hc⟩
  rcases hc with ⟨h1, ⟨cv, rfl⟩, h3⟩ | ⟨h1, rfl, h3⟩
  · have HE : Hid (Srch S tg p b ∧ useOk S pa wt p b = false ∧ Below w.heap.size w w2) := ⟨hs, h1, HB.out.trans (h3.mono HB.out.size)⟩
    clear hs h1 h3
    go_wp2
    refine bodyPost_ret (v := .tuple #[.pointer none, .pointer none, .int .i64 2]) (by simp [results, Try.results29]) rfl ⟨p, b, HE.out.1, .inl ⟨HE.out.2.1, rfl, HE.out.2.2⟩⟩
  · have hm : Mod (fun k => k = cb ∨ k = g) w w2 := (Mod.of HB.out).trans h3.mod
    have HE : Hid (Srch S tg p b ∧ useOk S pa wt p b = true ∧ Used w w2 cb g cap vs (left S pa wt p)) := ⟨hs, h1, h3.cell, h3.stk, hm⟩
    have hpt : ∀ q, Calls Try.prog 32 #[.pointer (some ⟨cb, 0, none⟩), .slice A pa.length c] (w2.drewN q) fun e W' => e = .returned (.tuple #[.pointer (some ⟨ab, ao, none⟩), .int .i64 0]) ∧ ∃ m, W' = w2.drewN m := fun q =>
      (HP.out.part (w2.drewN q) _ _ (h3.cell.drewN q) (hm.drewN q)).mono fun e W' ⟨h1, h2⟩ => ⟨h1, q, h2.symm⟩
    have HPT := Lib.hid hpt
    rw [HLP.out] at HPT
    have HWH : Hid (∀ q, Calls Try.prog 48 #[.agg #[c0, c1, c2, c3, c4, c5, c6]] (w2.drewN q) fun e w' => e = .returned (.bool true) ∧ Below (w2.drewN q).heap.size (w2.drewN q) w') := fun q => HP.out.whole (w2.drewN q) _ _ (h3.cell.drewN q) (hm.drewN q)
    have k0 := HP.out.cells w2 _ _ h3.cell hm 0 _ rfl
    have k1 := HP.out.cells w2 _ _ h3.cell hm 1 _ rfl
    have k2 := HP.out.cells w2 _ _ h3.cell hm 2 _ rfl
    have k3 := HP.out.cells w2 _ _ h3.cell hm 3 _ rfl
    have k4 := HP.out.cells w2 _ _ h3.cell hm 4 _ rfl
    have k5 := HP.out.cells w2 _ _ h3.cell hm 5 _ rfl
    have k6 := HP.out.cells w2 _ _ h3.cell hm 6 _ rfl
    have q1 : w2.cell? ⟨w.heap.size, 1, none⟩ = some (.slice A lp c) := by
      have := h3.mod.is IP.out (fun e => by have := HG.out; omega)
      exact this.at_ 1
    simp only [Nat.add_zero] at k0
    clear hs h1 h3 hm p1 hpt
    go_wp2_with fail
    go_quiet ((go_at_call 32; with_reducible exact HPT.out _))
    go_wp2_with fail
    refine (HWH.out _).mono ?_
    rintro e w3 ⟨rfl, q3'⟩
    have q3 : Below w2.heap.size w2 w3 := (below_drewN _ _).trans q3'
    clear q3'
    have HE2 : Hid (Srch S tg p b ∧ useOk S pa wt p b = true ∧ Used w w3 cb g cap vs (left S pa wt p)) :=
      ⟨HE.out.1, HE.out.2.1, HE.out.2.2.cell.below q3 HE.out.2.2.cell.lt, HE.out.2.2.stk.below q3, HE.out.2.2.mod.trans (.of q3)⟩
    clear q3 HE HWH HPT
    go_wp2
    refine bodyPost_ret (v := .tuple #[.pointer (some ⟨cb, 0, none⟩), .pointer (some ⟨ab, ao, none⟩), .int .i64 0]) (by simp [results, Try.results29]) rfl ⟨p, b, HE2.out.1, .inr ⟨HE2.out.2.1, rfl, HE2.out.2.2⟩⟩
end Hp
end Go.Proofs.Ytbhjdpaicfnfcaa
