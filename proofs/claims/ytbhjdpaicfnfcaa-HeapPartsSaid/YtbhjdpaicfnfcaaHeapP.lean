/- Layer 13: the law's own question, is memory watched? -/
import Derived.Test.YtbhjdpaicfnfcaaHeapO
namespace Go.Proofs.Ytbhjdpaicfnfcaa
open Go.RowKit Go.Deep Tr
namespace Hp
/-- Behind New and one Alloc. -/
theorem wt_start {w0 w w' : World} {hb mb : Nat} {most : Int} (h : HpAt w hb mb most true 0 0 0 0 fun _ => none) (hlo : w0.heap.size ≤ hb ∧ w0.heap.size ≤ mb) (hs : Below w0.heap.size w0 w) {cb g cap : Nat} {vs : List Value}
    (h1 : HpAt w' hb mb most true (0 + 1) (0 + 1) (0 + 1) (0 + 1) (put (fun _ => none) ((0 : Nat) : Int) (.pointer (some ⟨cb, 0, none⟩)))) (h2 : Al w' cb g cap vs [⟨((0 + 1 : Nat) : Int), [], true⟩]) (h3 : w.heap.size ≤ cb) (h4 : w.heap.size ≤ g) (h5 : Mod (fun k => k = hb ∨ k = mb) w w') :
    Wt w0 w' hb mb 1 1 1 1 (put (fun _ => none) 0 (.pointer (some ⟨cb, 0, none⟩))) 0 cb g cap vs [⟨1, [], true⟩] ∧ Keeps w w' := by
  have h0 := hs.size
  refine ⟨⟨⟨most, h1⟩, h2, by simp [put], wf_int (by omega) (by omega), ⟨hlo.1, hlo.2, by omega, by omega⟩, h5.below hs hs.size (fun k hk => by rcases hk with rfl | rfl; exact hlo.1; exact hlo.2), ⟨by omega, by simp⟩, fun x hx => by simp at hx; subst hx; simp⟩, ?_⟩
  obtain ⟨D, ⟨es, clock, m2, _⟩, _⟩ := h.map
  exact keeps_mod h5 (fun k hk => by
    rcases hk with rfl | rfl
    · exact .inl ⟨_, h.head⟩
    · exact .inr (.inr (.inr ⟨_, _, m2⟩)))
set_option maxHeartbeats 8000000
set_option maxRecDepth 100000
theorem watched_any (w : World) : Calls Try.prog 11 #[] w fun e w' => e = .returned (.bool true) ∧ Below w.heap.size w w' := by
  go_enter Try.func11, Try.ntmps11
  go_wp2_with fail
  refine (new_any _ 4 true).mono ?_
  rintro e w1 ⟨hb, mb, rfl, h1, lo1, lo2, b1⟩
  have H1 := Lib.hid h1
  have HB1 := Lib.hid b1
  have HLO := Lib.hid (And.intro lo1 lo2)
  clear h1 lo1 lo2 b1
  go_wp2_with fail
  refine (num_any _ 7).mono ?_
  rintro e w2 ⟨rfl, q2⟩
  have h2 := H1.out.below q2
  have HA := Lib.hid (alloc_any h2 (by decide) (by decide) (by decide) (by decide) rfl (us := leafC 2 7 0) rfl (stays_leaf 2 7 0) (fun X hX => (clone_leaf X 2 7 0).mono fun e w' ⟨h1, h2⟩ => ⟨_, h1, rfl, rfl, h2⟩))
  have H2 := Lib.hid h2
  have HB2 := Lib.hid (HB1.out.trans (q2.mono HB1.out.size))
  clear q2 h2 H1 HB1
  go_wp2_with fail
  refine HA.out.mono ?_
  rintro e w3 ⟨vs, cb, g, cap, rfl, a1, a2, rfl, a3, a4, a5⟩
  have hw := wt_start (w0 := w) H2.out HLO.out HB2.out a1 a2 a3 a4 a5
  have HW3 := Lib.hid hw.1
  clear a1 a2 a3 a4 a5 hw HA H2 HB2
  go_wp2_with fail
  obtain ⟨NP, hNP⟩ : ∃ N, w3.heap.size = N := ⟨_, rfl⟩
  obtain ⟨V4, hV4⟩ : ∃ V, w3.alloc (.cells #[.int .i64 0, .slice none 0 0, .int .i64 1] 29) = V := ⟨_, rfl⟩
  have ip : Is V4 NP 29 #[.int .i64 0, .slice none 0 0, .int .i64 1] := by rw [← hV4, ← hNP]; exact Is.made w3 _ _
  have hw4 := HW3.out.below (show Below w3.heap.size w3 V4 by rw [← hV4]; exact (Below.refl _ _).alloc (Nat.le_refl _) _)
  have HBO := Lib.hid (wt_borrow hw4 (by decide) (by decide) 1 (c := 0) (PathAt.nil V4 none) (Nat.zero_le _) (by decide) (place_leaf (by decide) none 0) true)
  have HW4 := Lib.hid hw4
  have IP := Lib.hid ip
  rw [hV4, hNP]
  clear hV4 hNP ip hw4 HW3
  refine HBO.out.mono ?_
  rintro e w5 ⟨p, b, hs, hc⟩
  obtain ⟨rfl, rfl⟩ := srch_hit hs 0 (by decide) rfl (fun k hk => absurd hk (Nat.not_lt_zero _))
  rcases hc with ⟨hc, _⟩ | ⟨_, A5, c5, g5, cap5, rfl, hc5, hp5, hw5, hk5, _⟩
  · cases hc
  have i5 := Keeps.is hk5 IP.out (by decide)
  have p0 := i5.at_ 0
  have p1 := i5.at_ 1
  have p2 := i5.at_ 2
  simp at p0 p1 p2
  have HW5 : Hid (Wt w w5 hb mb 1 2 1 1 (put (fun _ => none) 0 (.pointer (some ⟨cb, 0, none⟩))) 0 cb g5 cap5 (leafC 2 7 0) [⟨1, [], true⟩, ⟨2, [], true⟩]) := hw5
  have I5 := Lib.hid i5
  have HP5 := Lib.hid (And.intro hc5 hp5)
  clear hs hc5 hp5 hw5 hk5 i5 HW4 IP HBO
  simp only [List.length_nil]
  go_wp2_with fail
  obtain ⟨NQ, hNQ⟩ : ∃ N, w5.heap.size = N := ⟨_, rfl⟩
  obtain ⟨V6, hV6⟩ : ∃ V, w5.alloc (.cells #[.int .i64 0, .slice A5 0 c5, .int .i64 2] 29) = V := ⟨_, rfl⟩
  have b6 : Below w5.heap.size w5 V6 := by rw [← hV6]; exact (Below.refl _ _).alloc (Nat.le_refl _) _
  have iq : Is V6 NQ 29 #[.int .i64 0, .slice A5 0 c5, .int .i64 2] := by rw [← hV6, ← hNQ]; exact Is.made w5 _ _
  have hw6 := HW5.out.below b6
  have hpq := HP5.out.2.below b6
  have HRD := Lib.hid (wt_read hw6 2 (c := c5) hpq HP5.out.1 (place_leaf (by decide) A5 c5) (Q := fun rs => rs = leafC 2 7 0) (fun rs h => .inl ⟨2, 7, 0, h⟩) (fun X _ _ _ _ => (clone_leaf X 2 7 0).mono fun e w' ⟨h1, h2⟩ => ⟨_, h1, rfl, rfl, h2⟩))
  simp only [List.length_nil] at HRD
  have IQ := Lib.hid iq
  have IP := Lib.hid (I5.out.below b6 I5.out.lt)
  have HPQ := Lib.hid (And.intro HP5.out.1 hpq)
  rw [hV6, hNQ]
  clear hV6 hNQ iq hw6 HW5 b6 hpq HP5 I5 p0 p1 p2
  refine HRD.out.mono ?_
  rintro e w7 ⟨p, b, hs, hc⟩
  obtain ⟨rfl, rfl⟩ := srch_hit hs 1 (by decide) rfl (fun k hk => by have h0 : k = 0 := Nat.lt_one_iff.1 hk
                                                                     subst h0; exact (by decide : (1 : Int) < 2))
  rcases hc with ⟨hc, _⟩ | ⟨_, ⟨rs, rfl, _, rfl⟩, hw7, hk7⟩
  · cases hc
  have HW7 : Hid (Wt w w7 hb mb 1 2 1 1 (put (fun _ => none) 0 (.pointer (some ⟨cb, 0, none⟩))) 0 cb g5 cap5 (leafC 2 7 0) [⟨1, [], true⟩, ⟨2, [], true⟩]) := hw7
  have IP7 := Lib.hid (Keeps.is hk7 IP.out (by decide))
  have IQ7 := Lib.hid (Keeps.is hk7 IQ.out (by decide))
  have HPQ7 := Lib.hid (And.intro HPQ.out.1 (Keeps.path hk7 HPQ.out.2))
  have ip8 := IP7.out.alloc (.cells #[.int .i64 2, .int .u64 7, .string ⟨#[]⟩, .slice none 0 0, .int .i64 0, .slice none 0 0, .int .i64 0] 34)
  have p0 := ip8.at_ 0
  have p1 := ip8.at_ 1
  have p2 := ip8.at_ 2
  simp at p0 p1 p2
  clear hs hw7 hk7 HRD IP IQ HPQ
  unfold leafC
  go_wp2_with fail
  obtain ⟨NV, hNV⟩ : ∃ N, w7.heap.size = N := ⟨_, rfl⟩
  obtain ⟨V8, hV8⟩ : ∃ V, w7.alloc (.cells #[.int .i64 2, .int .u64 7, .string ⟨#[]⟩, .slice none 0 0, .int .i64 0, .slice none 0 0, .int .i64 0] 34) = V := ⟨_, rfl⟩
  have b8 : Below w7.heap.size w7 V8 := by rw [← hV8]; exact (Below.refl _ _).alloc (Nat.le_refl _) _
  have iv : Is V8 NV 34 #[.int .i64 2, .int .u64 7, .string ⟨#[]⟩, .slice none 0 0, .int .i64 0, .slice none 0 0, .int .i64 0] := by rw [← hV8, ← hNV]; exact Is.made w7 _ _
  have hw8 := HW7.out.below b8
  have HRE := Lib.hid (wt_read hw8 1 (c := 0) (PathAt.nil V8 none) (Nat.le_refl _) (place_leaf (by decide) none 0) (Q := fun rs => rs = leafC 2 7 0) (fun rs h => .inl ⟨2, 7, 0, h⟩) (fun X _ _ _ _ => (clone_leaf X 2 7 0).mono fun e w' ⟨h1, h2⟩ => ⟨_, h1, rfl, rfl, h2⟩))
  simp only [List.length_nil] at HRE
  have IV := Lib.hid iv
  have IQ8 := Lib.hid (IQ7.out.below b8 IQ7.out.lt)
  have HPQ8 := Lib.hid (And.intro HPQ7.out.1 (HPQ7.out.2.below b8))
  rw [hV8]
  clear hV8 iv hw8 HW7 b8 HPQ7 IQ7 IP7 ip8 p0 p1 p2
  refine HRE.out.mono ?_
  rintro e w9 ⟨p, b, hs, hc⟩
  obtain ⟨rfl, rfl⟩ := srch_hit hs 0 (by decide) rfl (fun k hk => absurd hk (Nat.not_lt_zero _))
  rcases hc with ⟨hc, _⟩ | ⟨_, ⟨rs, rfl, _, rfl⟩, hw9, hk9⟩
  · cases hc
  have HW9 : Hid (Wt w w9 hb mb 1 2 1 1 (put (fun _ => none) 0 (.pointer (some ⟨cb, 0, none⟩))) 0 cb g5 cap5 (leafC 2 7 0) [⟨1, [], true⟩]) := hw9
  have IV9 := Lib.hid (Keeps.is hk9 IV.out (by decide))
  have iq9 := Keeps.is hk9 IQ8.out (by decide)
  have HPQ9 := Lib.hid (And.intro HPQ8.out.1 (Keeps.path hk9 HPQ8.out.2))
  have iqa := iq9.alloc (.cells #[.int .i64 2, .int .u64 7, .string ⟨#[]⟩, .slice none 0 0, .int .i64 0, .slice none 0 0, .int .i64 0] 34)
  have b9 : Below w9.heap.size w9 (w9.alloc (.cells #[.int .i64 2, .int .u64 7, .string ⟨#[]⟩, .slice none 0 0, .int .i64 0, .slice none 0 0, .int .i64 0] 34)) := (Below.refl _ _).alloc (Nat.le_refl _) _
  have q0 := iqa.at_ 0
  have q1 := iqa.at_ 1
  have q2 := iqa.at_ 2
  simp at q0 q1 q2
  have HRQ := Lib.hid (wt_read (HW9.out.below b9) 2 (c := c5) (HPQ9.out.2.below b9) HPQ9.out.1 (place_leaf (by decide) A5 c5) (Q := fun rs => rs = leafC 2 7 0) (fun rs h => .inl ⟨2, 7, 0, h⟩) (fun X _ _ _ _ => (clone_leaf X 2 7 0).mono fun e w' ⟨h1, h2⟩ => ⟨_, h1, rfl, rfl, h2⟩))
  simp only [List.length_nil] at HRQ
  have HWA := Lib.hid (HW9.out.below b9)
  have IVA := Lib.hid (IV9.out.below b9 IV9.out.lt)
  clear hs hw9 hk9 HRE IV IQ8 HPQ8 HPQ9 iq9 iqa b9 HW9 IV9
  unfold leafC
  go_wp2_with fail
  refine HRQ.out.mono ?_
  rintro e w10 ⟨p, b, hs, hc⟩
  obtain rfl := srch_miss hs (fun k hk => by have h0 : k = 0 := Nat.lt_one_iff.1 hk
                                             subst h0; exact (by decide : (1 : Int) ≠ 2))
  obtain ⟨_, rfl, b10⟩ := hc.resolve_right (fun h => by cases h.1)
  have b11 : Below w10.heap.size w10 (w10.alloc (.cells #[.int .i64 0, .int .u64 0, .string ⟨#[]⟩, .slice none 0 0, .int .i64 0, .slice none 0 0, .int .i64 0] 34)) := (Below.refl _ _).alloc (Nat.le_refl _) _
  have iv10 := (IVA.out.below b10 IVA.out.lt).below b11 (IVA.out.below b10 IVA.out.lt).lt
  have v1 := iv10.at_ 1
  simp at v1
  have hw10 := (HWA.out.below b10).below b11
  obtain ⟨most, hh10⟩ := hw10.hp
  have HLV := Lib.hid (live_any hh10)
  have HB10 := Lib.hid hw10.since
  unfold leafC
  clear hs b10 b11 iv10 hw10 hh10 HWA IVA q0 q1 q2 HRQ
  go_wp2_with fail
  refine HLV.out.mono ?_
  rintro e w11 ⟨rfl, rfl⟩
  go_wp2
  go_ret
  exact ⟨rfl, HB10.out⟩
end Hp
end Go.Proofs.Ytbhjdpaicfnfcaa
