/- shard: Push, where nothing is wrong: the walk. -/
import Derived.Laws.OwnMore
import Derived.Test.YtfdogelkgogcbaaProg
import Derived.Test.YtfdogelkgogcbaaKit
import Derived.Test.YtfdogelkgogcbaaReg
import Derived.Test.YtfdogelkgogcbaaReg2
import Derived.Test.YtfdogelkgogcbaaLRow
import Derived.Test.YtfdogelkgogcbaaShA
import Derived.Test.YtfdogelkgogcbaaShB
import Derived.Test.YtfdogelkgogcbaaShC
import Derived.Test.YtfdogelkgogcbaaShE
import Derived.Test.YtfdogelkgogcbaaShG
import Derived.Test.YtfdogelkgogcbaaShH
import Derived.BigQuiet
set_option linter.unusedVariables false
set_option linter.unusedSimpArgs false
namespace Go.Proofs.Ytfdogelkgogcbaa.Sh
open Go.RowKit
attribute [local go_sem] bs_size bs_toList bs_append bs_get bs_extract

set_option maxRecDepth 20000 in
set_option maxHeartbeats 4000000 in
theorem push_any (w : World) (vi vl : Value) (s : Shd) (x : Itm) (hv : readsItems w w.heap.size vi s.items) (hxl : Lb.readsLabels w w.heap.size vl x.2.1) (hok : okShd s) (hx : okItm x) (h0 : shardErr s = 0) (h1 : itemErr x = 0) (h2 : fitsB s.items x.1 = true) (h3 : (s.items.length : Int) < s.room) :
    Calls Try.prog 15 #[shdV vi s, itmV vl x] w fun e w' => ∃ v' ps, e = .returned (.tuple #[shdV v' s, .int .i64 0]) ∧ ownItems w' w.heap.size v' ps ∧ ps.map (·.1) = s.items.map copyI ++ [copyI x] ∧ Grow w w' := by
  obtain ⟨_, hr1, hr2, _⟩ := shardErr_zero h0
  obtain ⟨io, ic, hvi, hcap, -⟩ := id hv
  obtain ⟨xo, xc, hvl⟩ := Lb.readsLabels_len hxl
  obtain ⟨V1, e1, g1, b1⟩ := laid_at w #[vi, .int .i64 s.batch, .int .i64 s.room, .int .i64 s.first, .int .i64 s.most, .int .i64 s.waits, .int .i64 s.till] 24
  obtain ⟨V2, e2, g2, b2⟩ := laid_at V1 #[.int .i64 x.1, vl, .int .i64 x.2.2.1, .int .u64 (x.2.2.2 : Nat)] 39
  obtain ⟨V3, e3, g3, b3⟩ := laid_at V2 #[.slice none 0 0, .int .i64 0, .int .i64 0, .int .i64 0, .int .i64 0, .int .i64 0, .int .i64 0] 24
  have s1 : V1.heap.size = w.heap.size + 1 := by rw [← e1]; simp
  have s2 : V2.heap.size = w.heap.size + 2 := by rw [← e2]; simp [s1]
  have s3 : V3.heap.size = w.heap.size + 3 := by rw [← e3]; simp [s2]
  have hg3 : Grow w V3 := g1.trans (g2.trans g3)
  have HB1 := hide ((g2.trans g3).get b1)
  have HB2 := hide (by have := g3.get b2; rw [s1] at this; exact this)
  have HB3 := hide (by have := b3; rw [s2] at this; exact this)
  have HRI : Hid (∀ W', Grow V3 W' → readsItems W' W'.heap.size vi s.items) := hide fun W' g => (hv.keep (Below.trans hg3 (Below.mono g hg3.size))).more (Nat.le_trans hg3.size g.size)
  have HRL : Hid (∀ W', Grow V3 W' → Lb.readsLabels W' W'.heap.size vl x.2.1) := hide fun W' g => Lb.readsLabels_mono (Lb.readsLabels_below hxl (Below.trans hg3 (Below.mono g hg3.size))) (Nat.le_trans hg3.size g.size)
  have HCK : Hid (∀ W', Grow V3 W' → Calls Try.prog 10 #[shdV vi s] W' fun e w' => e = .returned (.int .i64 0) ∧ Grow W' w') := hide fun W' g => by
    have := scheck_any W' vi s (HRI.out W' g) hok
    rw [h0] at this
    exact this
  have HCI : Hid (∀ W', Grow V3 W' → Calls Try.prog 23 #[itmV vl x] W' fun e w' => e = .returned (.int .i64 0) ∧ Grow W' w') := hide fun W' g => by
    have := checkItem_any W' x vl (HRL.out W' g) hx
    rw [h1] at this
    exact this
  have HFB : Hid (∀ W', Grow V3 W' → Calls Try.prog 24 #[vi, itmV vl x] W' fun e w' => e = .returned (.bool true) ∧ Grow W' w') := hide fun W' g => by
    have := fitsBehind_any W' vi vl s.items x.1 x.2.2.1 x.2.2.2 (HRI.out W' g) ⟨_, _, _, hvl⟩ hok.1
    rw [h2] at this
    exact this
  have HCO : Hid (∀ W', Grow V3 W' → Calls Try.prog 32 #[vi] W' fun e w' => ∃ v' ps, e = .returned v' ∧ ownItems w' W'.heap.size v' ps ∧ ps.map (·.1) = s.items.map copyI ∧ Grow W' w') := hide fun W' g => copied_any W' vi s.items (HRI.out W' g) (by omega) hok.2.1
  have HC1 : Hid (∀ W' nb, Grow V3 W' → W'.heap[nb]? = some (.cells #[.int .i64 x.1, vl, .int .i64 x.2.2.1, .int .u64 (x.2.2.2 : Nat)] 39 (0, 0)) → Calls Try.prog 32 #[.slice (some ⟨nb, 0, none⟩) 1 1] W' fun e w' => ∃ v' ps, e = .returned v' ∧ ownItems w' W'.heap.size v' ps ∧ ps.map (·.1) = [copyI x] ∧ Grow W' w') := hide fun W' nb g hb => by
    obtain ⟨q0, q1, q2, q3⟩ := four_of hb
    refine copied_any W' (.slice (some ⟨nb, 0, none⟩) 1 1) [x] ⟨some ⟨nb, 0, none⟩, 1, rfl, by simp, fun i hi => ?_⟩ (by simp) (fun y hy => by simp at hy; subst hy; exact hx)
    obtain rfl : i = 0 := by simp at hi; omega
    exact ⟨nb, 0, vl, rfl, lt_of_block hb, HRL.out W' g, by simpa using q0, by simpa using q1, by simpa using q2, by simpa using q3⟩
  have HLN : Hid (s.items.length ≤ 1000) := hide (by omega)
  have hri : decide (s.room ≤ (s.items.length : Int)) = false := decide_eq_false (by omega)
  have HG3 := hide hg3
  have E1 := hide e1
  have E2 := hide e2
  have E3 := hide e3
  clear hv hxl hok hx h0 h1 h2 h3 g1 g2 g3 b1 b2 b3 e1 e2 e3 hg3 HRI HRL
  unfold shdV itmV at *
  obtain ⟨is, batch, room, first, most, waits, till⟩ := s
  simp only at HCK HCI HFB HCO HC1 HB1 HB2 E1 E2 HLN hvi hcap hri ⊢
  obtain ⟨n, ls, t, bt⟩ := x
  simp only at HCK HCI HFB HCO HC1 HB1 HB2 E1 E2 hvl ⊢
  subst hvi hvl
  have e1 := E1.out
  have e2 := E2.out
  have e3 := E3.out
  have HC0 := hide (HCK.out V3 (Grow.refl _))
  obtain ⟨c0, c1, c2, c3, c4, c5, c6⟩ := seven_of HB1.out
  go_enter Try.func15, Try.ntmps15
  go_wp2_with fail
  refine HC0.out.mono ?_
  rintro e w4 ⟨rfl, hg4⟩
  have HG4 : Hid (Grow V3 w4) := hide hg4
  clear hg4 HC0 HCK e1 e2 e3 E1 E2 E3 c0 c1 c2 c3 c4 c5 c6
  have HC0 := hide (HCI.out w4 HG4.out)
  obtain ⟨i0, i1, i2, i3⟩ := four_of (HG4.out.get HB2.out)
  go_wp2_with fail
  refine HC0.out.mono ?_
  rintro e w5 ⟨rfl, hg5⟩
  have HG5 : Hid (Grow V3 w5) := hide (HG4.out.trans hg5)
  clear hg5 HC0 HCI i0 i1 i2 i3
  have HC0 := hide (HFB.out w5 HG5.out)
  obtain ⟨i0, i1, i2, i3⟩ := four_of (HG5.out.get HB2.out)
  obtain ⟨c0, c1, c2, c3, c4, c5, c6⟩ := seven_of (HG5.out.get HB1.out)
  go_wp2_with fail
  refine HC0.out.mono ?_
  rintro e w6 ⟨rfl, hg6⟩
  have HG6 : Hid (Grow V3 w6) := hide (HG5.out.trans hg6)
  clear hg6 HC0 HFB i0 i1 i2 i3 c0 c1 c2 c3 c4 c5 c6
  obtain ⟨c0, c1, c2, c3, c4, c5, c6⟩ := seven_of (HG6.out.get HB1.out)
  go_wp2
  refine wp_region_state 8 42 mixedR rfl (by decide +kernel) (fun L vals w' => pushJ w6 is (n, ls, t, bt) (.slice xo ls.length xc) (L 2) (vals 2) (L 4) (vals 4) (L 5) (vals 5) (L 6) (vals 6) w')
    (fun L vals h => ?_)
    (fun i v => match i with
      | 0 => v = .pointer (some ⟨w.heap.size, 0, none⟩)
      | 1 => v = .slice io is.length ic
      | 2 => True
      | 3 => v = .agg #[.int .i64 n, .slice xo ls.length xc, .int .i64 t, .int .u64 (bt : Nat)]
      | 4 => True
      | 5 => True
      | 6 => True
      | _ => v = .pointer (some ⟨w.heap.size, 0, none⟩))
    (fun _ _ => False) (fun _ _ _ _ h => h.elim) (fun i hi o ho a w2 L vals hLi hLc hLe hJ hoff hval hdep => ?_) (fun vals w2 L hL hJ hvals => ?_)
  · simp only [h]
    exact ⟨⟨rfl, rfl, rfl, Nat.le_refl _, fun _ _ => rfl⟩, (fun h => by cases h), (fun h => by cases h), (fun h => by cases h), (fun h => by cases h)⟩
  · have hJ0 := hJ
    obtain ⟨hg, j2, j4, j5, j6⟩ := id hJ
    obtain ⟨q0, q1, q2, q3, q4, q5, q6⟩ := seven_of (hg.get (HG6.out.get HB1.out))
    obtain ⟨i0, i1, i2, i3⟩ := four_of (hg.get (HG6.out.get HB2.out))
    have hgV : Grow V3 w2 := HG6.out.trans hg
    have hsz := hg.size
    match i, hi with
    | 0, _ =>
      obtain rfl := Option.some.inj ho
      have o2 := hoff 2 (by decide +kernel)
      simp at o2
      simp [opYields, go_sem, o2]
      exact hJ
    | 1, _ =>
      obtain rfl := Option.some.inj ho
      have d0 := hdep 0 (by decide +kernel)
      simp [slotOf, dstOf] at d0
      simp [opYields, go_sem, d0, q0]
      exact hJ
    | 2, _ =>
      have h6 : L 6 = false := by
        cases h : L 6 with
        | false => rfl
        | true => have := hLc 6 h 2 (by decide +kernel); rw [hLi] at this; cases this
      obtain rfl := Option.some.inj ho
      have d1 := hdep 1 (by decide +kernel)
      simp [slotOf, dstOf] at d1
      simp [opYields, go_sem, d1]
      refine (HCO.out w2 hgV).mono ?_
      rintro e w3 ⟨v', ps, rfl, hown, hps, hg3⟩
      refine ⟨hg.trans hg3, fun _ _ => ⟨ps, hown.le hsz, hps⟩, fun a b => ?_, fun a b => ?_, fun a => ?_⟩
      · obtain ⟨nb, p1, p2⟩ := j4 a b; exact ⟨nb, p1, hg3.get p2⟩
      · obtain ⟨qs, p1, p2⟩ := j5 a b; exact ⟨qs, p1.grow hg3, p2⟩
      · exact absurd a (by rw [h6]; simp)
    | 3, _ =>
      obtain rfl := Option.some.inj ho
      have o3 := hoff 3 (by decide +kernel)
      simp at o3
      simp [opYields, go_sem, o3, i0, i1, i2, i3]
      exact hJ
    | 4, _ =>
      have h5 : L 5 = false := by
        cases h : L 5 with
        | false => rfl
        | true => have := hLc 5 h 4 (by decide +kernel); rw [hLi] at this; cases this
      obtain rfl := Option.some.inj ho
      have d3 := hdep 3 (by decide +kernel)
      simp [slotOf, dstOf] at d3
      simp [opYields, go_sem, d3]
      have hga : Grow w2 (w2.alloc (.cells #[.int .i64 n, .slice xo ls.length xc, .int .i64 t, .int .u64 (bt : Nat)] 39)) := (Grow.refl _).alloc _
      refine ⟨hg.trans hga, fun a b => ?_, fun _ _ => ⟨_, rfl, heap_alloc_new _ _⟩, fun a _ => ?_, fun a => ?_⟩
      · obtain ⟨ps, p1, p2⟩ := j2 a b; exact ⟨ps, p1.grow hga, p2⟩
      · exact absurd a (by rw [h5]; simp)
      · obtain ⟨ps, p1, p2⟩ := j6 a; exact ⟨ps, p1.grow hga, p2⟩
    | 5, _ =>
      have h6 : L 6 = false := by
        cases h : L 6 with
        | false => rfl
        | true => have := hLc 6 h 5 (by decide +kernel); rw [hLi] at this; cases this
      obtain rfl := Option.some.inj ho
      have h4 := hLe 4 (by decide +kernel)
      obtain ⟨nb, hv4, hnb⟩ := j4 h4 hLi
      have d4 := hval 4 (by decide +kernel)
      simp [slotOf, dstOf] at d4
      rw [hv4] at d4
      simp [opYields, go_sem, d4]
      refine (HC1.out w2 nb hgV hnb).mono ?_
      rintro e w3 ⟨v', qs, rfl, hown, hqs, hg3⟩
      refine ⟨hg.trans hg3, fun a b => ?_, fun _ b => (by cases b), fun _ _ => ⟨qs, hown.le hsz, hqs⟩, fun a => ?_⟩
      · obtain ⟨ps, p1, p2⟩ := j2 a b; exact ⟨ps, p1.grow hg3, p2⟩
      · exact absurd a (by rw [h6]; simp)
    | 6, _ =>
      obtain rfl := Option.some.inj ho
      have h2 := hLe 2 (by decide +kernel)
      have h5 := hLe 5 (by decide +kernel)
      have h4 := hLc 5 h5 4 (by decide +kernel)
      have d2 := hval 2 (by decide +kernel)
      have d5 := hval 5 (by decide +kernel)
      simp [slotOf, dstOf] at d2 d5
      obtain ⟨ps, p1, p2⟩ := j2 h2 hLi
      obtain ⟨qs, q1, q2⟩ := j5 h5 hLi
      have hql : qs.length = 1 := by have := congrArg List.length q2; simpa using this
      have hpl : ps.length ≤ 1000 := by
        have := congrArg List.length p2
        simp at this
        rw [this]
        exact HLN.out
      obtain ⟨v6, w3, hrun, hown, hbel⟩ := app_items (ty := 22) p1 q1 hql hpl hsz
      refine yields_append rfl (.tmp 35) (.tmp 38) _ _ rfl (v1 := vals 2) (v2 := vals 5) (by simpa [Act.eval] using d2) (by simpa [Act.eval] using d5) hrun ?_
      refine ⟨⟨Below.trans hg hbel, fun _ b => (by cases b), fun _ b => ?_, fun _ b => (by cases b), fun _ => ⟨ps ++ qs, hown, by rw [List.map_append, p2, q2]⟩⟩, trivial⟩
      exact absurd (show L 5 = false from b) (by rw [h5]; simp)
    | 7, _ =>
      obtain rfl := Option.some.inj ho
      have o2 := hoff 2 (by decide +kernel)
      simp at o2
      simp [opYields, go_sem, o2]
      exact hJ
    | k + 8, h => exact absurd h (by omega)
  · obtain ⟨hg, -, -, -, j6⟩ := hJ
    obtain ⟨rs, hown, hrs⟩ := j6 (hL 6 (by omega))
    have v7 := hvals 7 (by omega)
    simp only at v7
    obtain ⟨v6, hv6⟩ : ∃ v6, vals 6 = v6 := ⟨_, rfl⟩
    rw [hv6] at hown
    obtain ⟨vo, vc, hvv⟩ := own_shape hown.1
    rw [hvv] at hown hv6
    have hgV : Grow V3 w2 := HG6.out.trans hg
    have b1 := hgV.get HB1.out
    have b3 := hgV.get HB3.out
    have hsz6 : w.heap.size ≤ w6.heap.size := (HG3.out.trans HG6.out).size
    obtain ⟨W7, e7⟩ : ∃ W7, w2.setCell ⟨w.heap.size, 0, none⟩ (.slice vo rs.length vc) = W7 := ⟨_, rfl⟩
    have b17 : W7.heap[w.heap.size]? = some (.cells #[.slice vo rs.length vc, .int .i64 batch, .int .i64 room, .int .i64 first, .int .i64 most, .int .i64 waits, .int .i64 till] 24 (0, 0)) := by
      rw [← e7]
      have := set4 b1 0 (.slice vo rs.length vc)
      simpa using this
    have b37 : W7.heap[w.heap.size + 2]? = some (.cells #[.slice none 0 0, .int .i64 0, .int .i64 0, .int .i64 0, .int .i64 0, .int .i64 0, .int .i64 0] 24 (0, 0)) := by
      rw [← e7]
      exact (Below.heap_setCell _ _ _ _ (by show w.heap.size + 2 ≠ w.heap.size; omega)).trans b3
    have o7 : ownItems W7 w.heap.size (.slice vo rs.length vc) rs := by
      rw [← e7]
      exact (hown.le hsz6).set b1 (by decide) (by decide)
    have g7 : Below w.heap.size w W7 := by
      rw [← e7]
      exact Below.setCell (Below.trans HG3.out (Below.mono hgV HG3.out.size)) (Nat.le_refl _) _
    have z0 : w2.frozen? ⟨w.heap.size, 0, none⟩ = false := by simp only [World.frozen?, b1]; rfl
    obtain ⟨c0, c1, c2, c3, c4, c5, c6⟩ := seven_of b17
    have y0 : W7.frozen? ⟨w.heap.size + 2, 0, none⟩ = false := by simp only [World.frozen?, b37]; rfl
    have y1 : W7.frozen? ⟨w.heap.size + 2, 1, none⟩ = false := by simp only [World.frozen?, b37]; rfl
    have y2 : W7.frozen? ⟨w.heap.size + 2, 2, none⟩ = false := by simp only [World.frozen?, b37]; rfl
    have y3 : W7.frozen? ⟨w.heap.size + 2, 3, none⟩ = false := by simp only [World.frozen?, b37]; rfl
    have y4 : W7.frozen? ⟨w.heap.size + 2, 4, none⟩ = false := by simp only [World.frozen?, b37]; rfl
    have y5 : W7.frozen? ⟨w.heap.size + 2, 5, none⟩ = false := by simp only [World.frozen?, b37]; rfl
    have y6 : W7.frozen? ⟨w.heap.size + 2, 6, none⟩ = false := by simp only [World.frozen?, b37]; rfl
    obtain ⟨k0, k1, k2, k3, k4, k5, k6⟩ := seven_of b37
    obtain ⟨m0, -, -, -, -, -, -⟩ := seven_of b1
    have B37 := hide b37
    have O7 := hide o7
    have G7 := hide g7
    have HRS := hide hrs
    clear hvals hown hrs b1 b3 b17 b37 o7 g7 hg hgV hsz6
    simp [over, dstOf, Act.put, v7, hv6]
    go_wp2
    have h0 := set4 B37.out 0 (.slice vo rs.length vc)
    have h1 := set4 h0 1 (.int .i64 batch)
    have h2 := set4 h1 2 (.int .i64 room)
    have h3 := set4 h2 3 (.int .i64 first)
    have h4 := set4 h3 4 (.int .i64 most)
    have h5 := set4 h4 5 (.int .i64 waits)
    have h6 := set4 h5 6 (.int .i64 till)
    obtain ⟨f0, f1, f2, f3, f4, f5, f6⟩ := seven_of h6
    have n0 := O7.out.set (i := 0) (u := .slice vo rs.length vc) B37.out (by decide) (by decide)
    have n1 := n0.set (i := 1) (u := .int .i64 batch) h0 (by decide) (by decide)
    have n2 := n1.set (i := 2) (u := .int .i64 room) h1 (by decide) (by decide)
    have n3 := n2.set (i := 3) (u := .int .i64 first) h2 (by decide) (by decide)
    have n4 := n3.set (i := 4) (u := .int .i64 most) h3 (by decide) (by decide)
    have n5 := n4.set (i := 5) (u := .int .i64 waits) h4 (by decide) (by decide)
    have n6 := n5.set (i := 6) (u := .int .i64 till) h5 (by decide) (by decide)
    have hle : w.heap.size ≤ w.heap.size + 2 := by omega
    refine bodyPost_ret (v := .tuple #[.agg #[.slice vo rs.length vc, .int .i64 batch, .int .i64 room, .int .i64 first, .int .i64 most, .int .i64 waits, .int .i64 till], .int .i64 0]) (by simp [results, Try.results15, go_sem, f0, f1, f2, f3, f4, f5, f6]) rfl ?_
    exact ⟨_, rs, rfl, n6, HRS.out, Below.setCell (Below.setCell (Below.setCell (Below.setCell (Below.setCell (Below.setCell (Below.setCell (G7.out) hle _) hle _) hle _) hle _) hle _) hle _) hle _⟩
end Go.Proofs.Ytfdogelkgogcbaa.Sh
