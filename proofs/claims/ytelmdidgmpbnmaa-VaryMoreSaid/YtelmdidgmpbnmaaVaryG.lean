/- Layer 8: the walk of said. -/
import Derived.Deep.OwnRows
import Derived.Laws.EntriesVeiled
import Derived.Test.YtelmdidgmpbnmaaVaryF
namespace Go.Proofs.Ytelmdidgmpbnmaa
open Go.RowKit Go.Deep Tr Mp
namespace Vy
theorem look_any : ∀ n, LookOk n
  | 0 => fun _ _ _ _ _ _ _ _ _ h _ _ => h.elim
  | n + 1 => look_step n (Lib.hid (look_any n)) (Lib.hid (lookS_step n (Lib.hid (look_any n))))
theorem info_int : (Try.prog.info? 3).map (fun i => (i.zero, i.size, i.bytes)) = some (some (.int .i64 0), 1, 8) := by kernel_rfl
theorem made_rowC (n : Nat) : madeCells #[.int .i64 0] n = rowC (List.replicate n 0) := by
  apply Array.ext
  · simp [madeCells, rowC]
  · intro i h1 h2
    simp [madeCells, rowC, Nat.mod_one]
theorem rowC_listAt {w : World} {R : Nat} {a : List Nat} (h : Is w R 3 (rowC a)) (hl : a.length ≤ maxLen) : ListAt w 1 IntAt (some ⟨R, 0, none⟩) (ints a) := by
  refine ⟨(ints a).map fun x => .int .i64 x, ⟨by simp, by rw [ints_length]; exact hl⟩, ⟨fun _ => ⟨R, 0, rfl, h.lt, fun i u hu => ?_⟩, fun u hu => ?_⟩, fun i hi => ?_⟩
  · rw [Nat.zero_add, h.at_, ← hu]
    simp [rowC, ints, Function.comp_def]
  · obtain ⟨x, _, rfl⟩ := List.mem_map.1 hu
    rfl
  · unfold IntAt
    rw [Nat.mul_one, ← List.map_drop, ← List.map_take]
    rw [List.drop_eq_getElem_cons hi]
    rfl
def parV (g : ByteArray → Option Nat) : ByteArray → Option Value := fun s => (g s).map fun i => .int .i64 (i : Int)
theorem parV_upd (g : ByteArray → Option Nat) (s : ByteArray) (x : Nat) : put (parV g) s (.int .i64 (x : Int)) = parV (upd g s x) := by
  funext t
  unfold put parV upd
  split <;> rfl
structure Laid (W2 W3 : World) (K k m : Nat) : Prop where
  kc : Is W3 K 3 #[.int .i64 (k : Int)]
  row : Is W3 (K + 1) 3 (rowC (List.replicate m 0))
  sc : Is W3 (K + 1 + 1) 26 #[.slice (some ⟨K + 1, 0, none⟩) m m]
  mp : MapAt W3 Try.prog 9 (K + 1 + 1 + 1) 0 (parV fun _ => none)
  mc : Is W3 (K + 1 + 1 + 1 + 1) 49 #[.map (some (K + 1 + 1 + 1))]
  bel : Below W2.heap.size W2 W3
theorem said_mem (W2 : World) (K k m : Nat) (hK : W2.heap.size = K) : Laid W2 (((((W2.alloc (.cells #[.int .i64 (k : Int)] 3)).alloc (.cells (madeCells #[.int .i64 0] m) 3)).alloc (.cells #[.slice (some ⟨K + 1, 0, none⟩) m m] 26)).alloc (.map #[] 0)).alloc (.cells #[.map (some (K + 1 + 1 + 1))] 49)) K k m := by
  have s1 : (W2.alloc (.cells #[.int .i64 (k : Int)] 3)).heap.size = K + 1 := by simp [hK]
  obtain ⟨A1, hA1⟩ : ∃ x, W2.alloc (.cells #[.int .i64 (k : Int)] 3) = x := ⟨_, rfl⟩
  have i1 : Is A1 K 3 #[.int .i64 (k : Int)] := by rw [← hA1, ← hK]; exact Is.made W2 _ _
  have b1 : Below W2.heap.size W2 A1 := by rw [← hA1]; exact (Below.refl _ _).alloc (Nat.le_refl _) _
  rw [hA1] at s1 ⊢
  obtain ⟨A2, hA2⟩ : ∃ x, A1.alloc (.cells (madeCells #[.int .i64 0] m) 3) = x := ⟨_, rfl⟩
  have s2 : A2.heap.size = K + 1 + 1 := by rw [← hA2]; simp [s1]
  have i2 : Is A2 (K + 1) 3 (rowC (List.replicate m 0)) := by rw [← hA2, ← s1, made_rowC]; exact Is.made A1 _ _
  have i12 : Is A2 K 3 #[.int .i64 (k : Int)] := by rw [← hA2]; exact i1.alloc _
  have b2 : Below W2.heap.size W2 A2 := by rw [← hA2]; exact b1.alloc (by rw [s1]; omega) _
  rw [hA2]
  obtain ⟨A3, hA3⟩ : ∃ x, A2.alloc (.cells #[.slice (some ⟨K + 1, 0, none⟩) m m] 26) = x := ⟨_, rfl⟩
  have s3 : A3.heap.size = K + 1 + 1 + 1 := by rw [← hA3]; simp [s2]
  have i3 : Is A3 (K + 1 + 1) 26 #[.slice (some ⟨K + 1, 0, none⟩) m m] := by rw [← hA3, ← s2]; exact Is.made A2 _ _
  have i13 : Is A3 K 3 #[.int .i64 (k : Int)] := by rw [← hA3]; exact i12.alloc _
  have i23 : Is A3 (K + 1) 3 (rowC (List.replicate m 0)) := by rw [← hA3]; exact i2.alloc _
  have b3 : Below W2.heap.size W2 A3 := by rw [← hA3]; exact b2.alloc (by rw [s2]; omega) _
  rw [hA3]
  have s4 : (A3.alloc (.map #[] 0)).heap.size = K + 1 + 1 + 1 + 1 := by simp [s3]
  have m4 := MapAt.made A3 Try.prog 9
  rw [s3] at m4
  refine ⟨(i13.alloc _).alloc _, (i23.alloc _).alloc _, (i3.alloc _).alloc _, m4.alloc _, ?_, (b3.alloc (by rw [s3]; omega) _).alloc (by rw [s4]; omega) _⟩
  rw [← s4]
  exact Is.made _ _ _
set_option maxHeartbeats 8000000 in
set_option maxRecDepth 100000 in
theorem said_any {n : Nat} {d : Df} {cs : List Value} {w : World} {o : Option Nat} {W : Ws} (h : DfAt w n d cs) (hw : WaysAt w (.map o) W) (hs : WSub W W) (ht : d.types.length ≤ 1000) :
    Calls Try.prog 17 #[.agg cs.toArray, .map o] w fun e w' => ∃ R m, e = .returned (.slice (some ⟨R, 0, none⟩) m m) ∧ RowI w' (.slice (some ⟨R, 0, none⟩) m m) (ints (said d W)) ∧ Below w.heap.size w w' := by
  obtain ⟨T, ct, B, cb, rfl, ⟨h0, h1⟩, h2⟩ := h
  obtain ⟨lt, hlt⟩ : ∃ n, d.types.length = n := ⟨_, rfl⟩
  obtain ⟨lf, hlf⟩ : ∃ n, d.fields.length = n := ⟨_, rfl⟩
  obtain ⟨nm, hnm⟩ : ∃ x, d.name = x := ⟨_, rfl⟩
  obtain ⟨li, hli⟩ : ∃ x, d.lifes = x := ⟨_, rfl⟩
  obtain ⟨k, hk⟩ : ∃ x, lifesP d.lifes = x := ⟨_, rfl⟩
  have hk100 : k ≤ 100 := by rw [← hk]; unfold lifesP; omega
  have hfl := h2.le
  rw [hlf] at hfl
  unfold maxLen at hfl
  rw [hlt] at ht
  rw [hlt, hlf, hnm, hli]
  have HK : Hid (lifesP li = k) := by rw [← hli]; exact hk
  have HLT := Lib.hid hlt
  have HLF := Lib.hid hlf
  have H1 := Lib.hid h1
  have H2 := Lib.hid h2
  have HW := Lib.hid hw
  have HS := Lib.hid hs
  have HSA : Hid (said d W = lookL W k (parP k d.types (fun _ => none)) d.fields 1 (List.replicate (k + lt) 0)) := by
    show _ = _
    unfold said parsP slots
    rw [hk, hlt]
  obtain ⟨fin, hfin⟩ : ∃ c, said d W = c := ⟨_, rfl⟩
  have HFIN := Lib.hid hfin
  rw [hfin]
  obtain ⟨m, hm⟩ : ∃ m, k + lt = m := ⟨_, rfl⟩
  have hsum : (k : Int) + (lt : Int) = (m : Int) := by omega
  have hm2 : m ≤ 1100 := by omega
  have HM := Lib.hid hm
  have b0 : Below w.heap.size w (w.alloc (.cells #[.string nm, .int .i64 li, .slice T lt ct, .slice B lf cb] 39)) := (Below.refl _ w).alloc (Nat.le_refl _) _
  have I0 := Lib.hid (Is.made w 39 #[.string nm, .int .i64 li, .slice T lt ct, .slice B lf cb])
  have B0 := Lib.hid b0
  have S0 := Lib.hid (show (w.alloc (.cells #[.string nm, .int .i64 li, .slice T lt ct, .slice B lf cb] 39)).heap.size = w.heap.size + 1 by simp)
  have hmk := run_make_row' (P := Try.prog) 26 3 (.int .i64 0) 8 Try.underlying26 info_int rfl .i64 .i64 m (by omega) (by omega)
  clear h0 h1 h2 hlt hlf hnm hli hk hw hs hfin hm b0
  have HMK := Lib.hid hmk
  have HSUM := Lib.hid hsum
  clear hmk hsum
  go_enter Try.func17, Try.ntmps17
  go_wp2_with fail
  refine (lifes_any nm li _ _).mono ?_
  rintro e W2 ⟨rfl, q2⟩
  rw [HK.out]
  have I2 := I0.out.below q2 I0.out.lt
  have B2 := Lib.hid (B0.out.trans (q2.mono (by rw [S0.out]; omega)))
  have hsz2 : w.heap.size < W2.heap.size := I2.lt
  have HI2 := Lib.hid I2
  have d2 := I2.at_ 2
  have d3 := I2.at_ 3
  simp only [List.getElem?_toArray, List.getElem?_cons_zero, List.getElem?_cons_succ] at d2 d3
  clear q2 I2 B0 I0 S0
  obtain ⟨K, hK⟩ : ∃ K, W2.heap.size = K := ⟨_, rfl⟩
  have hmk := HMK.out
  have hsum := HSUM.out
  have hmka : ∀ o1 : Obj, (W2.alloc o1).cell? ⟨w.heap.size, 2, none⟩ = some (.slice T lt ct) := fun o1 => by rw [World.cell?_alloc_old _ _ _ (by show w.heap.size ≠ W2.heap.size; omega)]; exact d2
  have hmm := @run_makeMap Try.prog
  have hlaid := said_mem W2 K k m hK
  have d2' := (hlaid.bel.cell (p := ⟨w.heap.size, 2, none⟩) hsz2).trans d2
  go_wp2
  obtain ⟨W3, hW3⟩ : ∃ x, (((((W2.alloc (.cells #[.int .i64 (k : Int)] 3)).alloc (.cells (madeCells #[.int .i64 0] m) 3)).alloc (.cells #[.slice (some ⟨K + 1, 0, none⟩) m m] 26)).alloc (.map #[] 0)).alloc (.cells #[.map (some (K + 1 + 1 + 1))] 49)) = x := ⟨_, rfl⟩
  rw [hW3] at hlaid ⊢
  have LD := Lib.hid hlaid
  have B3 := Lib.hid (B2.out.trans (hlaid.bel.mono (by omega)))
  have D3 := Lib.hid (HI2.out.below hlaid.bel HI2.out.lt)
  rw [hK] at hsz2
  have hK3 : K + 1 + 1 + 1 + 1 < W3.heap.size := hlaid.mc.lt
  clear d2' hmm hlaid hW3 hmk hsum hmka HMK hK d2 d3 HI2 B2
  have KD : Hid (∀ w', W3.grownBy w' (some (K + 1 + 1 + 1)) → w'.cell? ⟨K, 0, none⟩ = some (.int .i64 (k : Int)) ∧ w'.cell? ⟨K + 1 + 1 + 1 + 1, 0, none⟩ = some (.map (some (K + 1 + 1 + 1)))) := fun w' g =>
    ⟨(LD.out.kc.grown g (by intro e; injection e with e; omega)).at_ 0, (LD.out.mc.grown g (by intro e; injection e with e; omega)).at_ 0⟩
  go_loopw [27] (fun i wr => ∃ q : Nat, q ≤ lt ∧ i = .int .i64 q ∧ Hid (∃ g, MapAt wr Try.prog 9 (K + 1 + 1 + 1) q (parV g) ∧ parP (k + q) (d.types.drop q) g = parP k d.types (fun _ => none) ∧ W3.grownBy wr (some (K + 1 + 1 + 1)))) (fun i _ => lt - (intOf i).toNat)
  case atStart => exact ⟨0, Nat.zero_le _, rfl, _, LD.out.mp, rfl, grown_refl _ _⟩
  case round =>
    obtain ⟨q, hq, rfl, HC⟩ := hrel
    obtain ⟨g, hg1, hg2, hg3⟩ := HC.out
    have MG := Lib.hid hg1
    have PG := Lib.hid hg2
    have GG := Lib.hid hg3
    have BG : Hid (Below w.heap.size w wr) := B3.out.grown hg3 (by omega) (fun j hj => by cases hj; omega)
    obtain ⟨ck, cm⟩ := KD.out wr hg3
    clear HC hg1 hg2 hg3
    by_cases hql : q < lt
    · obtain ⟨bk, o', rfl, _, hsl, hc⟩ := str_at (H1.out.below BG.out (fun _ _ _ h => h)) (show q < d.types.length by rw [HLT.out]; exact hql)
      obtain ⟨s, hs⟩ : ∃ x, d.types[q]'(by rw [HLT.out]; exact hql) = x := ⟨_, rfl⟩
      rw [hs] at hc hsl
      have HSL := Lib.hid hsl
      have hlk := look_ok_at MG.out Try.underlying9 Try.underlying49 (zero_int wr) hsl
      have PN : Hid (parP (k + (q + 1)) (d.types.drop (q + 1)) (if (g s).isSome then g else upd g s (k + q)) = parP k d.types (fun _ => none)) := by
        have := PG.out
        rw [List.drop_eq_getElem_cons (by rw [HLT.out]; exact hql), parP, hs] at this
        exact this
      clear hs hsl PG
      cases hgs : g s with
      | none =>
        rw [show parV g s = none by unfold parV; rw [hgs]; rfl] at hlk
        have hlk : _ = Result.ok (Value.tuple #[.int .i64 0, .bool false]) wr := hlk
        rw [hgs, if_neg (by decide)] at PN
        clear hgs
        go_wp2_with (first | (at_mapUpdate; refine wpList_put _ rfl (.tmp 40) (.tmp 41) (.tmp 44) 49 rfl 9 3 Try.underlying9 Try.underlying49 (K + 1 + 1 + 1) q (parV g) rfl MG.out ?c1 s rfl HSL.out _ rfl ?_) | go_in)
        case c1 => unfold maxLen; omega
        intro w1 hm1 hg1
        have HR : Hid (∃ g, MapAt w1 Try.prog 9 (K + 1 + 1 + 1) (q + 1) (parV g) ∧ parP (k + (q + 1)) (d.types.drop (q + 1)) g = parP k d.types (fun _ => none) ∧ W3.grownBy w1 (some (K + 1 + 1 + 1))) := by
          refine ⟨_, ?_, PN.out, GG.out.trans hg1⟩
          rw [← parV_upd]
          exact hm1
        clear hm1 hg1 PN MG GG hlk
        go_wp2
        go_roundw
        case rel => exact ⟨q + 1, by omega, by go_num, HR⟩
        case measure => simp [intOf]; omega
      | some x =>
        rw [show parV g s = some (.int .i64 (x : Int)) by unfold parV; rw [hgs]; rfl] at hlk
        have hlk : _ = Result.ok (Value.tuple #[.int .i64 (x : Int), .bool true]) wr := hlk
        have PN : Hid (parP (k + (q + 1)) (d.types.drop (q + 1)) g = parP k d.types (fun _ => none)) := by
          have := PN.out
          rw [hgs] at this
          exact this
        have HR : Hid (∃ g, MapAt wr Try.prog 9 (K + 1 + 1 + 1) (q + 1) (parV g) ∧ parP (k + (q + 1)) (d.types.drop (q + 1)) g = parP k d.types (fun _ => none) ∧ W3.grownBy wr (some (K + 1 + 1 + 1))) := ⟨_, MG.out.mono (Nat.le_succ _), PN.out, GG.out⟩
        clear hgs MG PN GG
        go_wp2
        go_roundw
        case rel => exact ⟨q + 1, by omega, by go_num, HR⟩
        case measure => simp [intOf]; omega
    · have hqe : q = lt := by omega
      subst hqe
      have P2 : Hid (g = parP k d.types (fun _ => none)) := by
        have := PG.out
        rw [List.drop_of_length_le (by rw [HLT.out]; exact Nat.le_refl _), parP] at this
        exact this
      have hd3 : ∀ o1 : Obj, (wr.alloc o1).cell? ⟨w.heap.size, 3, none⟩ = some (.slice B lf cb) := fun o1 => by
        have h1 := GG.out.size
        rw [World.cell?_alloc_old _ _ _ (by show w.heap.size ≠ wr.heap.size; omega)]
        exact (D3.out.grown GG.out (by intro e; injection e with e; omega)).at_ 3
      obtain ⟨p, hp⟩ : ∃ p : Pl, p = ⟨K, K + 1 + 1, K + 1 + 1 + 1 + 1, K + 1 + 1 + 1, K + 1, k, m, parP k d.types (fun _ => none)⟩ := ⟨_, rfl⟩
      have hfr : Fr p wr (List.replicate m 0) := by
        subst hp
        have hm := HM.out
        exact ⟨LD.out.kc.grown GG.out (by intro e; injection e with e; omega), LD.out.sc.grown GG.out (by intro e; injection e with e; omega), LD.out.mc.grown GG.out (by intro e; injection e with e; omega),
          ⟨_, by rw [← P2.out]; exact MG.out⟩, ⟨by show K ≠ K + 1; omega, by show K + 1 + 1 ≠ K + 1; omega, by show K + 1 + 1 + 1 + 1 ≠ K + 1; omega, by show K + 1 + 1 + 1 ≠ K + 1; omega⟩,
          fun s i e => parP_lt d.types k m _ (fun _ _ e => by cases e) (by rw [HLT.out]; omega) s i e, by show k ≤ m; omega, by show m ≤ 2000000; omega, LD.out.row.grown GG.out (by intro e; injection e with e; omega),
          List.length_replicate, few_zeros m⟩
      have he : Env w wr p o W (List.replicate m 0) := ⟨HW.out, HS.out, BG.out, by subst hp; show w.heap.size ≤ K + 1; omega, hfr⟩
      have E4 := Lib.hid (he.alloc (.cells (fldC p o) 54))
      have I4 := Lib.hid (Is.made wr 54 (fldC p o))
      have hRlt : p.R < wr.heap.size := hfr.row.lt
      have hPR : p.R = K + 1 := by subst hp; rfl
      have hPn : p.n = m := by subst hp; rfl
      have hC4 : Hid (lookL W p.k p.f d.fields 1 (List.replicate m 0) = fin) := by
        rw [← HFIN.out, HSA.out, HM.out]
        subst hp
        exact rfl
      have HP : Hid (fldC p o = #[.map o, .func (.func 21) #[] #[.pointer (some ⟨K, 0, none⟩), .pointer (some ⟨K + 1 + 1, 0, none⟩)], .func (.func 22) #[] #[.pointer (some ⟨K + 1 + 1 + 1 + 1, 0, none⟩), .pointer (some ⟨K + 1 + 1, 0, none⟩)]]) := by subst hp; exact rfl
      have HPS : Hid (p.S = K + 1 + 1) := by subst hp; rfl
      have hS : ∀ w' cur, Env w w' p o W cur → w'.cell? ⟨K + 1 + 1, 0, none⟩ = some (.slice (some ⟨K + 1, 0, none⟩) m m) := fun w' cur e => by
        have := e.fr.sc.at_ 0
        rw [HPS.out, hPR, hPn] at this
        exact this
      have HSC := Lib.hid hS
      have HPR := Lib.hid hPR
      have HPN := Lib.hid hPn
      clear ck cm PG hp hfr he hS hPR hPn P2 MG HSA HSUM HM
      go_wp2
      rw [← HP.out]
      obtain ⟨F, hF⟩ : ∃ F, wr.heap.size = F := ⟨_, rfl⟩
      obtain ⟨W4, hW4⟩ : ∃ x, wr.alloc (.cells (fldC p o) 54) = x := ⟨_, rfl⟩
      rw [hW4] at E4 I4 ⊢
      rw [hF] at I4 hRlt ⊢
      have KF : Hid (∀ w', W4.grownBy w' (some p.R) → Is w' F 54 (fldC p o)) := fun w' g => I4.out.grown g (by intro e; injection e with e; omega)
      clear hd3 hW4 hF I4
      go_loopw [55] (fun i wr => ∃ j : Nat, j ≤ lf ∧ i = .int .i64 j ∧ Hid (∃ c, Env w wr p o W c ∧ lookL W p.k p.f (d.fields.drop j) 1 c = fin ∧ W4.grownBy wr (some p.R))) (fun i _ => lf - (intOf i).toNat)
      case atStart => exact ⟨0, Nat.zero_le _, rfl, _, E4.out, hC4.out, grown_refl _ _⟩
      clear E4 hC4
      case round =>
        obtain ⟨j, hj, rfl, HC⟩ := hrel
        obtain ⟨c, hce, hcr, hcg⟩ := HC.out
        have EC := Lib.hid hce
        have CR := Lib.hid hcr
        have CG := Lib.hid hcg
        clear HC hce hcr hcg
        by_cases hjl : j < lf
        · obtain ⟨bk, o', cs2, rfl, hlt, _, hs2, hc2⟩ := H2.out.get (by decide) (show j < d.fields.length by rw [HLF.out]; exact hjl)
          obtain ⟨x, hx⟩ : ∃ x, d.fields[j]'(by rw [HLF.out]; exact hjl) = x := ⟨_, rfl⟩
          rw [hx] at hs2
          obtain ⟨k0, nm0, u0, r0, R0, lr0, cr0, A0, la0, ca0, rfl⟩ := hs2.shape
          have x0 := (EC.out.bel.cell (p := ⟨bk, o' + j * 6 + 0, none⟩) hlt).trans (hc2 0 _ rfl)
          rw [Nat.add_zero] at x0
          have x1 := (EC.out.bel.cell (p := ⟨bk, o' + j * 6 + 1, none⟩) hlt).trans (hc2 1 _ rfl)
          have x2 := (EC.out.bel.cell (p := ⟨bk, o' + j * 6 + 2, none⟩) hlt).trans (hc2 2 _ rfl)
          have x3 := (EC.out.bel.cell (p := ⟨bk, o' + j * 6 + 3, none⟩) hlt).trans (hc2 3 _ rfl)
          have x4 := (EC.out.bel.cell (p := ⟨bk, o' + j * 6 + 4, none⟩) hlt).trans (hc2 4 _ rfl)
          have x5 := (EC.out.bel.cell (p := ⟨bk, o' + j * 6 + 5, none⟩) hlt).trans (hc2 5 _ rfl)
          obtain ⟨oN, hoN⟩ : ∃ o', (Obj.cells #[.int .i64 k0, .string nm0, .bool u0, .int .i64 r0, .slice R0 lr0 cr0, .slice A0 la0 ca0] 34) = o' := ⟨_, rfl⟩
          have EN := Lib.hid (EC.out.alloc oN)
          have GN : Hid (W4.grownBy (wr.alloc oN) (some p.R)) := CG.out.trans (World.grownBy_alloc wr oN _)
          have HX := Lib.hid hx
          have HON := Lib.hid hoN
          have HFW : Hid (F < wr.heap.size) := (KF.out wr CG.out).lt
          have f0 := (KF.out _ GN.out).at_ 0
          have f1 := (KF.out _ GN.out).at_ 1
          have f2 := (KF.out _ GN.out).at_ 2
          rw [HP.out] at f0 f1 f2
          simp only [List.getElem?_toArray, List.getElem?_cons_zero, List.getElem?_cons_succ] at f0 f1 f2
          rw [← hoN] at f0 f1 f2
          have HLI := Lib.hid (look_any n x _ 1 w (wr.alloc oN) p o W c hs2 (by decide) EN.out)
          have CN : Hid (lookL W p.k p.f (d.fields.drop (j + 1)) 1 (look W p.k p.f x 1 c) = fin) := by
            have := CR.out
            rw [List.drop_eq_getElem_cons (by rw [HLF.out]; exact hjl), lookL, HX.out] at this
            exact this
          clear hx hs2 hc2 hlt hoN EC CR CG
          go_wp2_with fail
          rw [HON.out, ← HP.out]
          refine HLI.out.mono ?_
          rintro e w3 ⟨rfl, f3, g3⟩
          have HR : Hid (∃ c, Env w w3 p o W c ∧ lookL W p.k p.f (d.fields.drop (j + 1)) 1 c = fin ∧ W4.grownBy w3 (some p.R)) := ⟨_, EN.out.next g3 f3, CN.out, GN.out.trans g3⟩
          clear EN CN HLI GN f3 g3 f0 f1 f2 x0 x1 x2 x3 x4 x5
          go_wp2
          go_roundw
          case rel => exact ⟨j + 1, by omega, by go_num, HR⟩
          case measure => simp [intOf]; omega
        · have hje : j = lf := by omega
          subst hje
          have C2 : Hid (c = fin) := by
            have := CR.out
            rw [List.drop_of_length_le (by rw [HLF.out]; exact Nat.le_refl _), lookL] at this
            exact this
          have hsc := HSC.out _ _ EC.out
          have HRow : Hid (RowI wr (.slice (some ⟨K + 1, 0, none⟩) m m) (ints fin)) := by
            have h1 := EC.out.fr.row
            rw [HPR.out, C2.out] at h1
            have hl := EC.out.fr.len
            rw [HPN.out, C2.out] at hl
            exact ⟨_, m, by rw [ints_length, hl], rowC_listAt h1 (by rw [hl]; unfold maxLen; omega)⟩
          have HBL : Hid (Below w.heap.size w wr) := EC.out.bel
          clear CR C2 EC CG
          go_wp2
          go_ret
          exact ⟨_, _, rfl, HRow.out, HBL.out⟩
end Vy
end Go.Proofs.Ytelmdidgmpbnmaa
