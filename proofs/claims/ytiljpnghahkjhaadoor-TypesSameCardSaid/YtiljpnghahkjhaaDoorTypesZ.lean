/- Layer 7: what is made of each part of a type. -/
import Derived.Deep.AppendLies
import Derived.Test.YtiljpnghahkjhaaDoorOnly
import Derived.Test.YtiljpnghahkjhaaDoorSmallT
import Derived.Test.YtiljpnghahkjhaaDoorTypesY
namespace Go.Proofs.YtiljpnghahkjhaaDoor
open Go.RowKit Go.Deep Tr
namespace Ts
def zeroTy : Value := .agg #[.int .i64 0, .string ⟨#[]⟩, .bool false, .int .i64 0, .slice none 0 0, .slice none 0 0]
theorem info_ty : (Tryd.prog.info? 25).map (fun i => (i.zero, i.size, i.bytes)) = some (some zeroTy, 6, 88) := by kernel_rfl
def qB (N : Nat) (l : Value) (b : Nat) : Bool := decide (N ≤ b) && !decide (l.ownBlock = some b)
def qN (N : Nat) (b : Nat) : Bool := decide (N ≤ b)
def EnvF (c : Nat) (X : World) : Prop := Is X c 30 #[.func (.func 34) #[] #[]]
def MapC (n m c : Nat) (W0 : World) (φ : Ty → Ty) : Prop := ∀ (x : Ty) (cs : List Value) (X : World), TyAt W0 n x cs → Below W0.heap.size W0 X → EnvF c X → Slim m x →
  Calls Tryd.prog 32 #[.agg cs.toArray, .pointer (some ⟨c, 0, none⟩)] X fun e W' => ∃ ds, e = .returned (.agg ds.toArray) ∧ TyAt (only (qN X.heap.size) W') n (φ x) ds ∧ Below X.heap.size X W'
def PI (n : Nat) (W : World) (φ : Ty → Ty) (ar : List Ty) (l : Value) (j : Nat) (X : World) : Prop :=
  ∃ xs, X.ownsRow (W.heap.size + 1) 25 6 l j xs ∧ (∀ u ∈ xs, u.oneCell' = true) ∧ (∀ (i : Nat) (h : i < ((ar.take j).map φ).length), TyAt (only (qB W.heap.size l) X) n ((ar.take j).map φ)[i] ((xs.drop (i * 6)).take 6)) ∧ Below W.heap.size W X ∧ W.heap.size + 1 ≤ X.heap.size
/-- One element more. -/
theorem pi_step {n j g cap : Nat} {W X X4 W5 W6 : World} {φ : Ty → Ty} {ar : List Ty} {l : Value} {ds xs : List Value} (hj : j < ar.length)
    (ho : X.ownsRow (W.heap.size + 1) 25 6 l j xs) (h1 : ∀ u ∈ xs, u.oneCell' = true) (hp : ∀ (i : Nat) (h : i < ((ar.take j).map φ).length), TyAt (only (qB W.heap.size l) X) n ((ar.take j).map φ)[i] ((xs.drop (i * 6)).take 6)) (hB : Below W.heap.size W X) (hs : W.heap.size + 1 ≤ X.heap.size)
    (hXX : Below X.heap.size X X4) (hd : TyAt (only (qN X4.heap.size) W5) n (φ ar[j]) ds) (hX4 : Below X4.heap.size X4 W5) (o : Obj)
    (hown : W6.ownsRow (W.heap.size + 1) 25 6 (.slice (some ⟨g, 0, none⟩) (j + 1) cap) (j + 1) (xs ++ ds)) (hg : (W5.alloc o).grownBy W6 l.ownBlock) (hw : l.ownBlock = some g ∨ g = W5.heap.size + 1) :
    PI n W φ ar (.slice (some ⟨g, 0, none⟩) (j + 1) cap) (j + 1) W6 := by
  have hX5 : Below X.heap.size X (W5.alloc o) := (hXX.trans (hX4.mono hXX.size)).alloc (Nat.le_trans hXX.size hX4.size) o
  have hlo : ∀ k, l.ownBlock = some k → W.heap.size + 1 ≤ k ∧ k < X.heap.size := ho.lt
  refine ⟨xs ++ ds, hown, ?_, ?_, ?_, Nat.le_trans hs (Nat.le_trans hX5.size hg.size)⟩
  · intro u hu
    rcases List.mem_append.1 hu with hu | hu
    · exact h1 u hu
    · exact hd.one.2 u hu
  · have e : (ar.take (j + 1)).map φ = (ar.take j).map φ ++ [φ ar[j]] := by rw [List.take_succ_eq_append_getElem hj, List.map_append]; rfl
    rw [e]
    refine chunks_append (P := TyAt (only (qB W.heap.size (.slice (some ⟨g, 0, none⟩) (j + 1) cap)) W6) n) ?_ ?_ ?_
    · rw [ho.1, List.length_map, List.length_take, Nat.min_eq_left (Nat.le_of_lt hj)]
    · intro i hi
      refine (hp i hi).kept (fun b hb hq => ?_) (Nat.le_trans hX5.size hg.size) (fun b hb hq => ?_)
      · simp only [qB, Bool.and_eq_true, decide_eq_true_eq, Bool.not_eq_true', Value.ownBlock] at hq ⊢
        refine ⟨hq.1, decide_eq_false fun e => ?_⟩
        have e1 : g = b := by simpa using e
        rcases hw with e2 | e2
        · exact of_decide_eq_false hq.2 (e2.trans (by rw [e1]))
        · have e3 : (W5.alloc o).heap.size = W5.heap.size + 1 := by simp
          have := hX5.size
          omega
      · simp only [qB, Bool.and_eq_true, decide_eq_true_eq, Bool.not_eq_true', decide_eq_false_iff_not] at hq
        exact (hg.block b (Nat.lt_of_lt_of_le hb hX5.size) (fun e => hq.2 e.symm)).trans (hX5.block b hb)
    · intro i hi
      have h0 : i = 0 := by simp at hi; exact hi
      subst h0
      rw [Nat.zero_mul, List.drop_zero, List.take_of_length_le (Nat.le_of_eq hd.one.1)]
      have h5 : W5.heap.size ≤ (W5.alloc o).heap.size := by simp
      refine hd.kept (fun b hb hq => ?_) (Nat.le_trans h5 hg.size) (fun b hb hq => ?_)
      · simp only [qN, qB, Bool.and_eq_true, decide_eq_true_eq, Bool.not_eq_true', Value.ownBlock] at hq ⊢
        have hx := hXX.size
        refine ⟨by omega, decide_eq_false fun e => ?_⟩
        have e1 : g = b := by simpa using e
        rcases hw with e2 | e2
        · have := (hlo _ e2).2
          omega
        · have e3 : (W5.alloc o).heap.size = W5.heap.size + 1 := by simp
          omega
      · simp only [qN, decide_eq_true_eq] at hq
        have hx := hXX.size
        exact (hg.block b (by omega) (fun e => by have := (hlo _ e.symm).2; omega)).trans (Below.heap_alloc W5 o b hb)
  · exact (hB.trans (hX5.mono hB.size)).grown hg (Nat.le_trans hB.size hX5.size) (fun k hk => by have := (hlo _ hk).1; omega)
set_option maxHeartbeats 8000000 in
set_option maxRecDepth 100000 in
theorem parts0 {n m c : Nat} {W0 W : World} {φ : Ty → Ty} (k : Int) (nm : ByteArray) (u : Bool) (r : Int) (R : Option Addr) (lr cr : Nat) (A : Option Addr) (ca : Nat) (ar : List Ty) (h2 : ListAt W0 6 (TyAt W0 n) A ar) (hb : Below W0.heap.size W0 W) (hc : EnvF c W)
    (hG : ∀ y ∈ ar, Slim m y) (hla4 : ar.length ≤ 4) (HC : Hid (MapC n m c W0 φ)) :
    Calls Tryd.prog 31 #[.agg #[.int .i64 k, .string nm, .bool u, .int .i64 r, .slice R lr cr, .slice A ar.length ca], .func (.func 32) #[] #[.pointer (some ⟨c, 0, none⟩)]] W fun e W' =>
      ∃ Q cq, e = .returned (.slice Q ar.length cq) ∧ ListAt (only (qN W.heap.size) W') 6 (TyAt (only (qN W.heap.size) W') n) Q (ar.map φ) ∧ Below W.heap.size W W' := by
  obtain ⟨i0, hi0, hz0, hz1, hz2⟩ := info_parts info_ty
  have HI := Lib.hid hi0
  obtain ⟨la, hla⟩ : ∃ n, ar.length = n := ⟨_, rfl⟩
  have HLA := Lib.hid hla
  have H2 := Lib.hid h2
  have HG := Lib.hid hG
  rw [hla] at hla4 ⊢
  obtain ⟨o1, ho1⟩ : ∃ o, Obj.cells #[.int .i64 k, .string nm, .bool u, .int .i64 r, .slice R lr cr, .slice A la ca] 25 = o := ⟨_, rfl⟩
  have hB1 : Below W.heap.size W (W.alloc o1) := (Below.refl _ W).alloc (Nat.le_refl _) o1
  have PI0 : Hid (PI n W φ ar (.slice none 0 0) 0 (W.alloc o1)) := ⟨[], World.ownsRow_nil _ _ _ _, (fun u h => (by cases h)), (fun i h => absurd h (by simp)), hB1, (by simp)⟩
  have HB0 := Lib.hid hb
  have HCE := Lib.hid hc
  have HO1 := Lib.hid ho1
  have hcl : c < W.heap.size := Is.lt hc
  have HCL := Lib.hid hcl
  clear h2 hG hla hb hc ho1 hi0 hB1 hcl
  go_enter Tryd.func31, Tryd.ntmps31
  go_wp2_with fail
  rw [HO1.out]
  go_loopw [5, 11] (fun v i wr => ∃ j : Nat, j ≤ la ∧ i = .int .i64 j ∧ Hid (PI n W φ ar v j wr)) (fun _ i _ => la - (intOf i).toNat)
  case atStart => exact ⟨0, Nat.zero_le _, rfl, PI0.out⟩
  clear PI0
  case round =>
    obtain ⟨j, hj, rfl, HQ⟩ := hrel
    obtain ⟨xs, o3, h1, hp, b3, s3⟩ := HQ.out
    obtain ⟨ao, cp, rfl, _⟩ := own_slice o3
    have hBW : Below W0.heap.size W0 wr := HB0.out.trans (b3.mono HB0.out.size)
    by_cases hjl : j < la
    · have hjl' : j < ar.length := by rw [HLA.out]; exact hjl
      obtain ⟨bk, o, cs, rfl, hlt, hl2, hs2, hc2⟩ := H2.out.get (by decide) hjl'
      have hgx := HG.out _ (List.getElem_mem hjl')
      obtain ⟨k0, nm0, u0, r0, R0, lr0, cr0, A0, la0, ca0, rfl⟩ := hs2.shape
      have x0 := (hBW.cell (p := ⟨bk, o + j * 6 + 0, none⟩) hlt).trans (hc2 0 _ rfl)
      rw [Nat.add_zero] at x0
      have x1 := (hBW.cell (p := ⟨bk, o + j * 6 + 1, none⟩) hlt).trans (hc2 1 _ rfl)
      have x2 := (hBW.cell (p := ⟨bk, o + j * 6 + 2, none⟩) hlt).trans (hc2 2 _ rfl)
      have x3 := (hBW.cell (p := ⟨bk, o + j * 6 + 3, none⟩) hlt).trans (hc2 3 _ rfl)
      have x4 := (hBW.cell (p := ⟨bk, o + j * 6 + 4, none⟩) hlt).trans (hc2 4 _ rfl)
      have x5 := (hBW.cell (p := ⟨bk, o + j * 6 + 5, none⟩) hlt).trans (hc2 5 _ rfl)
      obtain ⟨oN, hoN⟩ : ∃ o', (Obj.cells #[.int .i64 k0, .string nm0, .bool u0, .int .i64 r0, .slice R0 lr0 cr0, .slice A0 la0 ca0] 25) = o' := ⟨_, rfl⟩
      have hXX : Below wr.heap.size wr (wr.alloc oN) := (Below.refl _ wr).alloc (Nat.le_refl _) oN
      have hCC := HC.out _ _ (wr.alloc oN) hs2 (hBW.trans (hXX.mono hBW.size)) ((Is.below HCE.out b3 HCL.out).alloc oN) hgx
      have HCC := Lib.hid hCC
      have HON := Lib.hid hoN
      have HXX := Lib.hid hXX
      have O3 := Lib.hid o3
      have H1 := Lib.hid h1
      have HPP := Lib.hid hp
      have B3 := Lib.hid b3
      have S3 := Lib.hid s3
      clear HQ o3 h1 hp b3 s3 hs2 hc2 hlt hl2 hgx hoN hXX hCC hBW
      go_wp2_with fail
      rw [HON.out]
      refine HCC.out.mono ?_
      rintro e W5 ⟨ds, rfl, t5, b5⟩
      obtain ⟨k1, nm1, u1, r1, R1, lr1, cr1, A1, la1, ca1, rfl⟩ := t5.shape
      obtain ⟨oL, hoL⟩ : ∃ o', (Obj.cells #[.int .i64 k1, .string nm1, .bool u1, .int .i64 r1, .slice R1 lr1 cr1, .slice A1 la1 ca1] 25) = o' := ⟨_, rfl⟩
      have hX5 : Below wr.heap.size wr (W5.alloc oL) := (HXX.out.trans (b5.mono HXX.out.size)).alloc (Nat.le_trans HXX.out.size b5.size) oL
      have hnews : ∀ (q : Nat) (v : Value), [Value.int .i64 k1, .string nm1, .bool u1, .int .i64 r1, .slice R1 lr1 cr1, .slice A1 la1 ca1][q]? = some v → (W5.alloc oL).cell? ((⟨W5.heap.size, 0, none⟩ : Addr).add q) = some v := by
        intro q v hq
        have hadd : (⟨W5.heap.size, 0, none⟩ : Addr).add q = ⟨W5.heap.size, q, none⟩ := by unfold Addr.add; split <;> simp_all
        rw [hadd, ← hoL, (Is.made W5 _ _).at_ q]
        simpa using hq
      have T5 := Lib.hid t5
      have B5 := Lib.hid b5
      have O5 := Lib.hid (own_below O3.out hX5)
      have HNW := Lib.hid hnews
      have HN1 := Lib.hid t5.one.2
      have HS5 : Hid (W.heap.size + 1 ≤ (W5.alloc oL).heap.size) := Nat.le_trans S3.out hX5.size
      have HOL := Lib.hid hoL
      have hb1 : j + 1 ≤ maxLen := by unfold maxLen; omega
      have hb2 : (j + 1) * 88 ≤ 140737488355328 := by omega
      have HB1 := Lib.hid hb1
      have HB2 := Lib.hid hb2
      rw [← hoL] at O5 HNW HS5
      clear t5 b5 hX5 hnews hoL hb1 hb2 x0 x1 x2 x3 x4 x5
      go_wp2_with (at_builtin; refine wpList_append_lies _ rfl (.tmp 15) (.tmp 19) 23 rfl (W.heap.size + 1) 25 i0 zeroTy 6 88 Tryd.underlying23 HI.out hz0 hz1 hz2 rfl (by decide) _ j xs rfl O5.out ⟨W5.heap.size, 0, none⟩ 1 1 [.int .i64 k1, .string nm1, .bool u1, .int .i64 r1, .slice R1 lr1 cr1, .slice A1 la1 ca1] rfl rfl HNW.out HN1.out (by decide) HB1.out HB2.out HS5.out _ rfl ?_)
      intro g cap W6 hown6 hg6 hw6 hlt6
      have HR : Hid (PI n W φ ar (.slice (some ⟨g, 0, none⟩) (j + 1) cap) (j + 1) W6) := pi_step hjl' O3.out H1.out HPP.out B3.out S3.out HXX.out T5.out B5.out _ hown6 hg6 hw6
      clear hown6 hg6 hw6 hlt6 T5 B5 O5 HNW HN1 HS5 HOL HB1 HB2 HCC HXX O3 H1 HPP B3 S3 HON
      go_wp2
      go_roundw
      case rel => exact ⟨j + 1, by omega, by go_num, HR⟩
      case measure => simp [intOf]; omega
    · have hje : j = la := by omega
      subst hje
      have ht : ar.take j = ar := List.take_of_length_le (Nat.le_of_eq HLA.out)
      rw [ht] at hp
      have HRR : Hid (ListAt (only (qN W.heap.size) wr) 6 (TyAt (only (qN W.heap.size) wr) n) ao (ar.map φ)) := by
        refine ⟨xs, ⟨by rw [o3.1, List.length_map, HLA.out], by rw [List.length_map, HLA.out]; unfold maxLen; omega⟩, ⟨?_, h1⟩, fun i hi => (hp i hi).kept (fun b hb hq => ?_) (Nat.le_refl _) (fun _ _ _ => rfl)⟩
        · intro h0
          obtain ⟨bk, o, e, hl, hcc⟩ := own_row o3 h0
          have hbk : W.heap.size ≤ bk := by
            have := (o3.lt bk (by rw [e]; rfl)).1
            omega
          refine ⟨bk, o, e, by rw [only_size]; exact hl, fun i v hv => ?_⟩
          rw [cell_block (w := wr) (only_in (by simp [qN, hbk]))]
          exact hcc i v hv
        · simp only [qB, Bool.and_eq_true] at hq
          exact hq.1
      have B3 := Lib.hid b3
      clear HQ o3 h1 hp b3 s3 hBW ht
      go_wp2
      go_ret
      exact ⟨_, _, rfl, HRR.out, B3.out⟩
end Ts
end Go.Proofs.YtiljpnghahkjhaaDoor
