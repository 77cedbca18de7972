/- record: the reader's refs: a label more. -/
import Derived.Laws.OwnMore
import Derived.Test.YtnlkfehnmijimaaProg
import Derived.Test.YtnlkfehnmijimaaKit
import Derived.Test.YtnlkfehnmijimaaSpec
import Derived.Test.YtnlkfehnmijimaaReg
import Derived.Test.YtnlkfehnmijimaaReg2
import Derived.Test.YtnlkfehnmijimaaLRow
import Derived.Test.YtnlkfehnmijimaaRcA
import Derived.Test.YtnlkfehnmijimaaRcM
import Derived.Test.YtnlkfehnmijimaaRcN
import Derived.Test.YtnlkfehnmijimaaRcS
import Derived.Test.YtnlkfehnmijimaaRcT
import Derived.Test.YtnlkfehnmijimaaRcU
import Derived.Test.YtnlkfehnmijimaaRcW
import Derived.Test.YtnlkfehnmijimaaRcY
import Derived.Test.YtnlkfehnmijimaaRfA
import Derived.Test.YtnlkfehnmijimaaRfB
import Derived.BigQuiet
set_option linter.unusedVariables false
set_option linter.unusedSimpArgs false
namespace Go.Proofs.Ytnlkfehnmijimaa.Rc
open Go.RowKit Lb
attribute [local go_sem] bs_size bs_toList bs_append bs_get bs_extract

theorem labJ.lay {w : World} {Z b xb pb : Nat} {r : Int} {ls : List Lab} {s s1 s2 : List UInt8} {x : Lab} {v xn xa : Value} {w' : World} {y1 y2 : List UInt8} (h : labJ w Z b xb pb r ls s s1 s2 x v true true false xn false xa w') (h1 : y1 = x.1) (h2 : y2 = x.2) (ya : Value) :
    labJ w Z b xb pb r ls s s1 s2 x v true true true (.slice (some ⟨w'.heap.size, 0, none⟩) 1 1) false ya (w'.alloc (.cells #[.string (bs y1), .string (bs y2)] 60)) := by
  subst h1 h2
  obtain ⟨hk, hZ, hp, hx, hi, ho, _, _⟩ := h
  have hg : Grow w' (w'.alloc (.cells #[.string (bs x.1), .string (bs x.2)] 60)) := (Grow.refl _).alloc _
  exact ⟨hk.trans (belowKZ (Below.mono hg hZ) b), by have := hg.size; omega, hg.get hp, hg.get hx, hi.grow hg, fun _ => Lb.own_grow (ho rfl) hg, fun _ _ => ⟨_, rfl, heap_alloc_new _ _⟩, fun h => by cases h⟩
set_option maxRecDepth 20000 in
theorem labJ.append {w : World} {Z b xb pb : Nat} {r : Int} {ls : List Lab} {s s1 s2 : List UInt8} {x : Lab} {ao : Option Addr} {cp : Nat} {xn xa : Value} {w' : World} (h : labJ w Z b xb pb r ls s s1 s2 x (.slice ao ls.length cp) true true true xn false xa w') (hl : ls.length ≤ 1000) (hb : b < Z) (ty : TypeId) :
    ∃ ao' cp' w3, (Builtin.append_ #[51, 51] ty #[.slice ao ls.length cp, xn]).run Try.prog w' = .ok (.slice ao' (ls.length + 1) cp') w3 ∧ ∀ yn, labJ w Z b xb pb r ls s s1 s2 x (.slice ao ls.length cp) true true true yn true (.slice ao' (ls.length + 1) cp') w3 := by
  obtain ⟨i0, hi0, hz0, hz1, hz2⟩ := info_parts infoLab
  obtain ⟨hk, hZ, hp, hx, hi, ho, hn, _⟩ := h
  have ho := ho rfl
  obtain ⟨nb, rfl, hnb⟩ := hn rfl rfl
  obtain ⟨ao', cp', w3, hrun, hown3, hbel, hty⟩ := app_one (ty := ty) (news := [.string (bs x.1), .string (bs x.2)]) Try.underlying51 hi0 hz0 hz1 hz2 rfl (by omega) ho hnb rfl (by simp [Value.oneCell']) (by omega) (by omega) hZ
  refine ⟨ao', cp', w3, hrun, fun yn => ⟨hk.trans (belowKZ hbel b), by have := hbel.size; omega, hty _ _ _ _ hp (by decide), hty _ _ _ _ hx (by decide), ?_, (fun h => by cases h), (fun _ h => by cases h), fun _ => ?_⟩⟩
  · exact hty _ _ _ _ hi (by decide)
  · unfold ownLabels
    rw [List.length_append, labCells_snoc]
    exact hown3
theorem labJ.put {w : World} {Z b xb pb : Nat} {r : Int} {ls : List Lab} {s s1 s2 : List UInt8} {x : Lab} {v xn xa : Value} {w' : World} {k : Nat} (h : labJ w Z b xb pb r ls s s1 s2 x v true true true xn true xa w') (hs : s2.length ≤ 140737488355328) (hl : ls.length ≤ k) (hx : Z ≤ xb) (hpx : pb ≠ xb) (hbx : b ≠ xb) :
    KZ Z b w (w'.setCell ⟨xb, 1, none⟩ xa) ∧ inRef Z b xb pb r (k + 1) (ls ++ [x], s2) (w'.setCell ⟨xb, 1, none⟩ xa) := by
  obtain ⟨hk, hZ, hp, hxb, hi, _, _, ho⟩ := h
  have ho := ho rfl
  refine ⟨hk.setNew hx _ _, by simpa [World.setCell] using hZ, hs, by rw [List.length_append]; simp; omega, hi.other (Ne.symm hbx) _ _, (Below.heap_setCell _ _ _ _ hpx).trans hp, xa, ?_, ?_⟩
  · have := set3 hxb 1 xa
    simpa using this
  · exact ownsRow_setCell_other (a := ⟨xb, 1, none⟩) ho (own_apart ho hxb (by decide)) _
theorem cutL_is {s : List UInt8} {x1 x2 s1 s2 : List UInt8} (h1 : cutT s = some (x1, s1)) (h2 : cutT s1 = some (x2, s2)) : cutL s = some ((x1, x2), s2) := by
  unfold cutL bindO mapO
  rw [h1]
  simp only [Option.bind_some]
  rw [h2]
  rfl

set_option maxRecDepth 20000 in
set_option maxHeartbeats 4000000 in
theorem ref1_any (w : World) (Z b xb pb : Nat) (r : Int) (k : Nat) (st : List Lab × List UInt8) (hk20 : k < 20) (hb : b < Z) (hxb : Z ≤ xb) (hpb : pb ≠ b) (hpx : pb ≠ xb) (h : inRef Z b xb pb r k st w) :
    Calls Try.prog 59 #[.pointer (some ⟨xb, 0, none⟩), .pointer (some ⟨pb, 0, none⟩)] w (turned (fun st' w' => KZ Z b w w' ∧ inRef Z b xb pb r (k + 1) st' w') (fun w' => KZ Z b w w') (stepL st)) := by
  obtain ⟨ls, s⟩ := st
  obtain ⟨hZ, hsl, hll, hin, hp, v, hx, ho⟩ := h
  simp only at hsl hll hin ho
  obtain ⟨O, HO⟩ : ∃ O, Hid (stepL (ls, s) = O) := ⟨_, hide rfl⟩
  rw [HO.out]
  obtain ⟨ao, cp, rfl⟩ := own_shape ho
  obtain ⟨x1, X1⟩ : ∃ x1, Hid (((cutT s).getD ([], [])).1 = x1) := ⟨_, hide rfl⟩
  obtain ⟨s1, S1⟩ : ∃ s1, Hid (((cutT s).getD ([], [])).2 = s1) := ⟨_, hide rfl⟩
  obtain ⟨x2, X2⟩ : ∃ x2, Hid (((cutT s1).getD ([], [])).1 = x2) := ⟨_, hide rfl⟩
  obtain ⟨s2, S2⟩ : ∃ s2, Hid (((cutT s1).getD ([], [])).2 = s2) := ⟨_, hide rfl⟩
  have C1 : Hid (∀ c, cutT s = some c → cutT s = some (x1, s1) ∧ s1.length ≤ 140737488355328) := hide fun c hc => by
    obtain ⟨c1, c2⟩ := c
    have h1 := X1.out
    have h2 := S1.out
    rw [hc] at h1 h2
    simp only [Option.getD_some] at h1 h2
    subst h1 h2
    exact ⟨hc, by have := cutT_len hc; omega⟩
  have C2 : Hid (∀ c, cutT s1 = some c → cutT s1 = some (x2, s2) ∧ s2.length ≤ s1.length) := hide fun c hc => by
    obtain ⟨c1, c2⟩ := c
    have h1 := X2.out
    have h2 := S2.out
    rw [hc] at h1 h2
    simp only [Option.getD_some] at h1 h2
    subst h1 h2
    exact ⟨hc, cutT_len hc⟩
  have N1 : Hid (cutT s = none → O = none) := hide fun hc => by rw [← HO.out]; unfold stepL cutL bindO mapO; simp only; rw [hc]; rfl
  have N2 : Hid (cutT s = some (x1, s1) → cutT s1 = none → O = none) := hide fun hc hc2 => by
    rw [← HO.out]; unfold stepL cutL bindO mapO; simp only; rw [hc]; simp only [Option.bind_some]; rw [hc2]; rfl
  have Y : Hid (cutT s = some (x1, s1) → cutT s1 = some (x2, s2) → O = some (ls ++ [(x1, x2)], s2)) := hide fun hc hc2 => by
    rw [← HO.out]; unfold stepL mapO; simp only; rw [cutL_is hc hc2]; rfl
  have HX := hide hx
  have HP := hide hp
  have HIN := hide hin
  have HOW := hide ho
  have HSL := hide hsl
  clear HO X1 S1 X2 S2 hx hp hin ho hsl
  go_enter Try.func59, Try.ntmps59
  go_wp2
  refine wp_region_state 10 12 mixedR rfl (by decide +kernel) (fun L vals w' => labJ w Z b xb pb r ls s s1 s2 (x1, x2) (.slice ao ls.length cp) (L 3) (L 5) (L 7) (vals 7) (L 8) (vals 8) w')
    (fun L vals h => ?_)
    (fun i v => match i with
      | 0 => v = .pointer (some ⟨xb, 1, none⟩)
      | 1 => v = .slice ao ls.length cp
      | 2 => v = .pointer (some ⟨b, 0, none⟩)
      | 3 => cutT s = some (x1, s1) ∧ v = .string (bs x1)
      | 4 => v = .pointer (some ⟨b, 0, none⟩)
      | 5 => (cutT s = some (x1, s1) ∧ cutT s1 = some (x2, s2)) ∧ v = .string (bs x2)
      | 6 => v = .agg #[.string (bs x1), .string (bs x2)]
      | 7 => True
      | 8 => ∃ ao' cp', v = .slice ao' (ls.length + 1) cp'
      | _ => v = .pointer (some ⟨xb, 1, none⟩))
    (gaveQ (O = none) Z b w) (fun ch a w2 hd hq => ?_) (fun i hi o ho a w2 L vals hLi hLc hLe hJ hoff hval hdep => ?_) (fun vals w2 L hL hJ hvals => ?_)
  · simp only [h]
    exact ⟨⟨rfl, rfl, rfl, Nat.le_refl _, fun _ _ _ => rfl⟩, hZ, HP.out, HX.out, HIN.out, fun _ => HOW.out, (fun h => by cases h), (fun h => by cases h)⟩
  · obtain ⟨hq0, ⟨E, hE, hq1⟩, hq2⟩ := hq
    simp only [Ending.panicked.injEq] at hq1
    subst hq1
    refine ⟨hd, ?_⟩
    rw [hq0]
    exact ⟨⟨E, hE, rfl⟩, hq2⟩
  · have hJ0 := hJ
    obtain ⟨hk, hZ2, hpb2, hxb2, hin2, hown, hnew, hown2⟩ := id hJ
    have cp0 := cell_of_one hpb2
    obtain ⟨cx0, cx1⟩ := two_of hxb2
    match i, hi with
    | 0, _ =>
      obtain rfl := Option.some.inj ho
      have o0 := hoff 0 (by decide +kernel)
      simp at o0
      simp [opYields, go_sem, o0]
      exact hJ
    | 1, _ =>
      obtain rfl := Option.some.inj ho
      have d0 := hdep 0 (by decide +kernel)
      simp [slotOf, dstOf] at d0
      simp [opYields, go_sem, d0, cx1]
      exact hJ
    | 2, _ =>
      obtain rfl := Option.some.inj ho
      have o1 := hoff 1 (by decide +kernel)
      simp at o1
      simp [opYields, go_sem, o1, cp0]
      exact hJ
    | 3, _ =>
      have h5 : L 5 = false := by
        cases h : L 5 with
        | false => rfl
        | true => have := hLc 5 h 3 (by decide +kernel); rw [hLi] at this; cases this
      obtain rfl := Option.some.inj ho
      have d2 := hdep 2 (by decide +kernel)
      simp [slotOf, dstOf] at d2
      simp [opYields, go_sem, d2]
      rw [hLi, h5] at hin2 hJ
      refine (bytes_r w2 b s hin2 HSL.out).mono ?_
      cases hc : cutT s with
      | none =>
        rintro e w3 ⟨hk3, E, hE, rfl⟩
        exact ⟨N1.out hc, ⟨E, hE, rfl⟩, hk.trans (hk3.kz hZ2)⟩
      | some c =>
        obtain ⟨hc1, hc2⟩ := C1.out c hc
        obtain rfl : c = (x1, s1) := by rw [hc] at hc1; exact Option.some.inj hc1
        rintro e w3 ⟨hk3, rfl, hi3⟩
        refine ⟨⟨hk.trans (hk3.kz hZ2), by have := hk3.size; omega, hk3.get hpb2 hpb, hk3.get hxb2 (by omega), by simpa [h5] using hi3, fun h => ?_, fun h1 h2 => ?_, fun h => ?_⟩, ?_⟩
        · have ho2 := hown (by simpa using h)
          exact hk3.own ho2 (fun e => by have := (ho2.lt _ e).1; omega)
        · exfalso
          have h7 : L 7 = true := by simpa using h1
          have := hLc 7 h7 6 (by decide +kernel)
          have := hLc 6 this 3 (by decide +kernel)
          rw [hLi] at this; cases this
        · exfalso
          have h8 : L 8 = true := by simpa using h
          have := hLc 8 h8 7 (by decide +kernel)
          have := hLc 7 this 6 (by decide +kernel)
          have := hLc 6 this 3 (by decide +kernel)
          rw [hLi] at this; cases this
        · exact ⟨rfl, rfl⟩
    | 4, _ =>
      obtain rfl := Option.some.inj ho
      have o1 := hoff 1 (by decide +kernel)
      simp at o1
      simp [opYields, go_sem, o1, cp0]
      exact hJ
    | 5, _ =>
      have h3 := hLe 3 (by decide +kernel)
      obtain ⟨hc1, _⟩ := hdep 3 (by decide +kernel)
      obtain rfl := Option.some.inj ho
      have d4 := hdep 4 (by decide +kernel)
      simp [slotOf, dstOf] at d4
      simp [opYields, go_sem, d4]
      rw [hLi, h3] at hin2 hJ
      refine (bytes_r w2 b s1 hin2 (C1.out _ hc1).2).mono ?_
      cases hc : cutT s1 with
      | none =>
        rintro e w3 ⟨hk3, E, hE, rfl⟩
        exact ⟨N2.out hc1 hc, ⟨E, hE, rfl⟩, hk.trans (hk3.kz hZ2)⟩
      | some c =>
        obtain ⟨hc2, _⟩ := C2.out c hc
        obtain rfl : c = (x2, s2) := by rw [hc] at hc2; exact Option.some.inj hc2
        rintro e w3 ⟨hk3, rfl, hi3⟩
        refine ⟨⟨hk.trans (hk3.kz hZ2), by have := hk3.size; omega, hk3.get hpb2 hpb, hk3.get hxb2 (by omega), by simpa using hi3, fun h => ?_, fun h1 h2 => ?_, fun h => ?_⟩, ?_⟩
        · have ho2 := hown (by simpa using h)
          exact hk3.own ho2 (fun e => by have := (ho2.lt _ e).1; omega)
        · exfalso
          have h7 : L 7 = true := by simpa using h1
          have := hLc 7 h7 6 (by decide +kernel)
          have := hLc 6 this 5 (by decide +kernel)
          rw [hLi] at this; cases this
        · exfalso
          have h8 : L 8 = true := by simpa using h
          have := hLc 8 h8 7 (by decide +kernel)
          have := hLc 7 this 6 (by decide +kernel)
          have := hLc 6 this 5 (by decide +kernel)
          rw [hLi] at this; cases this
        · exact ⟨⟨hc1, rfl⟩, rfl⟩
    | 6, _ =>
      obtain rfl := Option.some.inj ho
      have d3 := (hdep 3 (by decide +kernel)).2
      have d5 := (hdep 5 (by decide +kernel)).2
      simp [slotOf, dstOf] at d3 d5
      simp [opYields, go_sem, d3, d5]
      exact hJ
    | 7, _ =>
      have h3 := hLc 6 (hLe 6 (by decide +kernel)) 3 (by decide +kernel)
      have h5 := hLc 6 (hLe 6 (by decide +kernel)) 5 (by decide +kernel)
      have h8 : L 8 = false := by
        cases h : L 8 with
        | false => rfl
        | true => have := hLc 8 h 7 (by decide +kernel); rw [hLi] at this; cases this
      obtain rfl := Option.some.inj ho
      have d6 := hdep 6 (by decide +kernel)
      simp [slotOf, dstOf] at d6
      rw [hLi, h8, h3, h5] at hJ
      simp [opYields, go_sem, d6, h8, h3, h5]
      exact hJ.lay rfl rfl _
    | 8, _ =>
      have h7 := hLe 7 (by decide +kernel)
      have h3 := hLc 6 (hLc 7 h7 6 (by decide +kernel)) 3 (by decide +kernel)
      have h5 := hLc 6 (hLc 7 h7 6 (by decide +kernel)) 5 (by decide +kernel)
      obtain rfl := Option.some.inj ho
      have d1 := hdep 1 (by decide +kernel)
      have d7 := hval 7 (by decide +kernel)
      simp [slotOf, dstOf] at d1 d7
      rw [hLi, h7, h3, h5] at hJ
      obtain ⟨ao', cp', w3, hrun, hJ3⟩ := labJ.append hJ (by omega) hb 51
      refine yields_append rfl (.tmp 3) (.tmp 9) _ _ rfl (v1 := .slice ao ls.length cp) (v2 := vals 7) (by simpa [Act.eval] using d1) (by simpa [Act.eval] using d7) hrun ?_
      simp only [h7, h3, h5]
      exact ⟨hJ3 _, ao', cp', rfl⟩
    | 9, _ =>
      obtain rfl := Option.some.inj ho
      have o0 := hoff 0 (by decide +kernel)
      simp at o0
      simp [opYields, go_sem, o0]
      exact hJ
    | k + 10, h => exact absurd h (by omega)
  · have h3 := hL 3 (by omega)
    have h5 := hL 5 (by omega)
    have h7 := hL 7 (by omega)
    have h8 := hL 8 (by omega)
    rw [h3, h5, h7, h8] at hJ
    obtain ⟨⟨hc1, hc2⟩, _⟩ := hvals 5 (by omega)
    obtain ⟨ao', cp', v8⟩ := hvals 8 (by omega)
    have v9 := hvals 9 (by omega)
    simp only at v9
    have hP := hJ.put (k := k) (by have := (C1.out _ hc1).2; have := (C2.out _ hc2).2; omega) hll hxb hpx (by omega)
    obtain ⟨_, _, _, hxb2, _⟩ := hJ
    rw [v8] at hP
    have HPT := hide hP
    have HY := hide (Y.out hc1 hc2)
    obtain ⟨cx0, cx1⟩ := two_of hxb2
    have z1 : w2.frozen? ⟨xb, 1, none⟩ = false := by simp only [World.frozen?, hxb2]; rfl
    clear hvals hP hxb2 hc1 hc2
    simp [over, dstOf, Act.put, v8, v9]
    go_wp2
    go_end0
    rw [HY.out]
    exact ⟨rfl, HPT.out⟩
end Go.Proofs.Ytnlkfehnmijimaa.Rc
