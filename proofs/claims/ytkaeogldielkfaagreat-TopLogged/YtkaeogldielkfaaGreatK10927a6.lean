/- 2 texts in one. -/
import Derived.Laws.OwnMore
import Derived.Test.YtkaeogldielkfaaGreatProg
import Derived.Test.YtkaeogldielkfaaGreatK5674b3b
import Derived.Test.YtkaeogldielkfaaGreatK7aebb14
import Derived.Test.YtkaeogldielkfaaGreatKe92268d
import Derived.Test.YtkaeogldielkfaaGreatKb13b050
import Derived.Test.YtkaeogldielkfaaGreatK9055bc8
import Derived.Test.YtkaeogldielkfaaGreatKf68bbdb
import Derived.Test.YtkaeogldielkfaaGreatKaaaa94b
import Derived.BigQuiet
set_option linter.unusedVariables false
set_option linter.unusedSimpArgs false
namespace Go.Proofs.YtkaeogldielkfaaGreat.Rc
open Go.RowKit Lb
attribute [local go_sem] bs_size bs_toList bs_append bs_get bs_extract
/-- What each step keeps, all keep. -/
theorem runN_keeps {σ : Type} {step : σ → Option σ} {R : σ → σ → Prop} (hr : ∀ a, R a a) (ht : ∀ a b c, R a b → R b c → R a c) (hs : ∀ a b, step a = some b → R a b) : ∀ (n : Nat) (a b : σ), runN step n a = some b → R a b
  | 0, a, b, h => by cases h; exact hr a
  | n + 1, a, b, h => by
    cases hc : step a with
    | none => rw [runN_none hc] at h; cases h
    | some c => rw [runN_some hc] at h; exact ht _ _ _ (hs _ _ hc) (runN_keeps hr ht hs n c b h)
theorem eachO_len {α : Type} {step : List α × List UInt8 → Option (List α × List UInt8)} (hs : ∀ a b, step a = some b → b.2.length ≤ a.2.length) {most : Nat} {st st' : List α × List UInt8} (h : eachO step most (fun st => st.2) (fun st r => (st.1, r)) st = some st') : st'.2.length ≤ st.2.length := by
  unfold eachO at h
  cases hc : cutN st.2 with
  | none => rw [hc] at h; cases h
  | some x =>
    rw [hc] at h
    simp only at h
    by_cases hm : x.1 ≤ most
    · rw [if_pos hm] at h
      have h1 := runN_keeps (R := fun a b : List α × List UInt8 => b.2.length ≤ a.2.length) (fun _ => Nat.le_refl _) (fun _ _ _ h k => Nat.le_trans k h) hs _ _ _ h
      have h2 := (cutN_lt (s := st.2) (n := x.1) (r := x.2) hc).2
      have h3 : st'.2.length ≤ x.2.length := h1
      omega
    · rw [if_neg hm] at h; cases h
theorem stepL_len {a b : List Lab × List UInt8} (h : stepL a = some b) : b.2.length ≤ a.2.length := by
  unfold stepL at h
  obtain ⟨b1, b2⟩ := b
  obtain ⟨x, hx, _⟩ := mapO_some h
  exact Nat.le_of_lt (cutL_lt hx).1
theorem cutR_len {s r : List UInt8} {x : RefL} (h : cutR s = some (x, r)) : r.length ≤ s.length := by
  unfold cutR bindO at h
  cases hc : mapO numI (cutN s) with
  | none => rw [hc] at h; cases h
  | some y =>
    obtain ⟨n, s1⟩ := y
    obtain ⟨n1, hn1, -⟩ := mapO_some hc
    rw [hc] at h
    simp only [Option.bind_some] at h
    obtain ⟨ls, hl, _⟩ := mapO_some h
    have h1 := eachO_len (fun a b => stepL_len) hl
    have h2 := cutN_len hn1
    have h3 : r.length ≤ s1.length := h1
    omega
set_option maxRecDepth 20000 in
set_option maxHeartbeats 4000000 in
theorem unp1_any (w : World) (Z b rb : Nat) (kind : Int) (k : Nat) (st : List RefL × List UInt8) (hk200 : k < 200) (hb : b < Z) (hrb : Z ≤ rb) (h : inRec Z b rb kind k st w) :
    Calls Tryz.prog 66 #[.pointer (some ⟨rb, 0, none⟩), .pointer (some ⟨b, 0, none⟩)] w (turned (fun st' w' => KZ Z b w w' ∧ inRec Z b rb kind (k + 1) st' w') (fun w' => KZ Z b w w') (stepR st)) := by
  obtain ⟨rs, s⟩ := st
  obtain ⟨hZ, hsl, hll, hin, v, hx, ho⟩ := h
  simp only at hsl hll hin ho
  obtain ⟨O, HO⟩ : ∃ O, Hid (stepR (rs, s) = O) := ⟨_, hide rfl⟩
  rw [HO.out]
  obtain ⟨ao, cp, rfl⟩ := ownRefs_shape ho
  obtain ⟨x, X1⟩ : ∃ x, Hid (((cutR s).getD ((0, []), [])).1 = x) := ⟨_, hide rfl⟩
  obtain ⟨s1, S1⟩ : ∃ s1, Hid (((cutR s).getD ((0, []), [])).2 = s1) := ⟨_, hide rfl⟩
  have C1 : Hid (∀ c, cutR s = some c → cutR s = some (x, s1) ∧ s1.length ≤ 140737488355328) := hide fun c hc => by
    obtain ⟨c1, c2⟩ := c
    have h1 := X1.out
    have h2 := S1.out
    rw [hc] at h1 h2
    simp only [Option.getD_some] at h1 h2
    subst h1 h2
    exact ⟨hc, by have := cutR_len hc; omega⟩
  have N1 : Hid (cutR s = none → O = none) := hide fun hc => by rw [← HO.out]; unfold stepR mapO; simp only; rw [hc]; rfl
  have Y : Hid (cutR s = some (x, s1) → O = some (rs ++ [x], s1)) := hide fun hc => by rw [← HO.out]; unfold stepR mapO; simp only; rw [hc]; rfl
  have HX := hide hx
  have HIN := hide hin
  have HOW := hide ho
  have HSL := hide hsl
  clear HO X1 S1 hx hin ho hsl
  go_enter Tryz.func66, Tryz.ntmps66
  go_wp2
  refine wp_region_state 6 8 mixedR rfl (by decide +kernel) (fun L vals w' => refJ w Z b rb kind rs s s1 x (.slice ao rs.length cp) (L 2) (vals 2) (L 3) (vals 3) (L 4) (vals 4) w')
    (fun L vals h => ?_)
    (fun i v => match i with
      | 0 => v = .pointer (some ⟨rb, 1, none⟩)
      | 1 => v = .slice ao rs.length cp
      | 2 => cutR s = some (x, s1)
      | 3 => True
      | 4 => ∃ ao' cp', v = .slice ao' (rs.length + 1) cp'
      | _ => v = .pointer (some ⟨rb, 1, none⟩))
    (gaveQ (O = none) Z b w) (fun ch a w2 hd hq => ?_) (fun i hi o ho a w2 L vals hLi hLc hLe hJ hoff hval hdep => ?_) (fun vals w2 L hL hJ hvals => ?_)
  · simp only [h]
    exact ⟨⟨rfl, rfl, rfl, Nat.le_refl _, fun _ _ _ => rfl⟩, hZ, HX.out, HIN.out, fun _ => HOW.out, (fun h => by cases h), (fun h => by cases h), (fun h => by cases h)⟩
  · obtain ⟨hq0, ⟨E, hE, hq1⟩, hq2⟩ := hq
    simp only [Ending.panicked.injEq] at hq1
    subst hq1
    refine ⟨hd, ?_⟩
    rw [hq0]
    exact ⟨⟨E, hE, rfl⟩, hq2⟩
  · obtain ⟨hk, hZ2, hrb2, hin2, hown, hv2, hnew, hown2⟩ := id hJ
    obtain ⟨cx0, cx1, cx2⟩ := three_of hrb2
    match i, hi with
    | 0, _ =>
      obtain rfl := Option.some.inj ho
      have o0 := hoff 0 (by decide +kernel)
      simp at o0
      simp [opYields, go_sem, o0]
      exact hJ
    | 1, _ =>
      obtain rfl := Option.some.inj ho
      have d0 := hdep 0 (by decide +kernel)
      simp [slotOf, dstOf] at d0
      simp [opYields, go_sem, d0, cx1]
      exact hJ
    | 2, _ =>
      have h3 : L 3 = false := by
        cases h : L 3 with
        | false => rfl
        | true => have := hLc 3 h 2 (by decide +kernel); rw [hLi] at this; cases this
      have h4 : L 4 = false := by
        cases h : L 4 with
        | false => rfl
        | true => have := hLc 4 h 3 (by decide +kernel); rw [h3] at this; cases this
      obtain rfl := Option.some.inj ho
      have o1 := hoff 1 (by decide +kernel)
      simp at o1
      simp [opYields, go_sem, o1]
      rw [hLi] at hin2
      refine (ref_any w2 b s hin2 HSL.out).mono ?_
      rintro e w3 ha
      unfold refAns at ha
      obtain ⟨hk3, ha⟩ := ha
      cases hc : cutR s with
      | none =>
        rw [hc] at ha
        obtain ⟨E, hE, rfl⟩ := ha
        exact ⟨N1.out hc, ⟨E, hE, rfl⟩, hk.trans (hk3.kz hZ2)⟩
      | some c =>
        obtain ⟨hc1, hc2⟩ := C1.out c hc
        obtain rfl : c = (x, s1) := by rw [hc] at hc1; exact Option.some.inj hc1
        rw [hc] at ha
        obtain ⟨lv, rfl, hlv, hi3⟩ := ha
        refine ⟨⟨hk.trans (hk3.kz hZ2), by have := hk3.size; omega, hk3.get hrb2 (by omega), by simpa using hi3, fun h => ownRefs_stay (hown h4) (hk3.stay hb), fun _ _ => ⟨lv, by simp, own_le hlv hZ2⟩, fun h => ?_, fun h => ?_⟩, ?_⟩
        · simp [h3] at h
        · simp [h4] at h
        · rfl
    | 3, _ =>
      have h2 := hLe 2 (by decide +kernel)
      have h4 : L 4 = false := by
        cases h : L 4 with
        | false => rfl
        | true => have := hLc 4 h 3 (by decide +kernel); rw [hLi] at this; cases this
      obtain rfl := Option.some.inj ho
      have d2 := hval 2 (by decide +kernel)
      simp [slotOf, dstOf] at d2
      obtain ⟨lv, e2, _⟩ := hv2 h2 hLi
      rw [e2] at d2
      rw [hLi, h2, h4] at hJ
      have hJ2 := hJ.lay e2
      simp [opYields, go_sem, d2, h2, h4]
      exact hJ2 _
    | 4, _ =>
      have h3 := hLe 3 (by decide +kernel)
      have h2 := hLc 3 h3 2 (by decide +kernel)
      obtain rfl := Option.some.inj ho
      have d1 := hdep 1 (by decide +kernel)
      have d3 := hval 3 (by decide +kernel)
      simp [slotOf, dstOf] at d1 d3
      rw [hLi, h3, h2] at hJ
      obtain ⟨ao', cp', w3, hrun, hJ3⟩ := refJ.append hJ (by omega) 22
      refine yields_append rfl (.tmp 3) (.tmp 5) _ _ rfl (v1 := .slice ao rs.length cp) (v2 := vals 3) (by simpa [Act.eval] using d1) (by simpa [Act.eval] using d3) hrun ?_
      simp only [h3, h2]
      exact ⟨hJ3 _, ao', cp', rfl⟩
    | 5, _ =>
      obtain rfl := Option.some.inj ho
      have o0 := hoff 0 (by decide +kernel)
      simp at o0
      simp [opYields, go_sem, o0]
      exact hJ
    | k + 6, h => exact absurd h (by omega)
  · have h2 := hL 2 (by omega)
    have h3 := hL 3 (by omega)
    have h4 := hL 4 (by omega)
    rw [h2, h3, h4] at hJ
    have hc1 := hvals 2 (by omega)
    simp only at hc1
    obtain ⟨ao', cp', v4⟩ := hvals 4 (by omega)
    have v5 := hvals 5 (by omega)
    simp only at v5
    have hP := hJ.put (k := k) (C1.out _ hc1).2 hll hrb (by omega)
    obtain ⟨_, _, hrb2, _⟩ := hJ
    rw [v4] at hP
    have HPT := hide hP
    have HY := hide (Y.out hc1)
    obtain ⟨cx0, cx1, cx2⟩ := three_of hrb2
    have z1 : w2.frozen? ⟨rb, 1, none⟩ = false := by simp only [World.frozen?, hrb2]; rfl
    clear hvals hP hrb2 hc1
    simp [over, dstOf, Act.put, v4, v5]
    go_wp2
    go_end0
    rw [HY.out]
    exact ⟨rfl, HPT.out⟩
/-- What holds while a point is read: ahead of it, behind it, when it is laid, and behind the append. -/
def pntJ (w : World) (Z b rb : Nat) (kind : Int) (rs : List Pnt) (s s1 : List UInt8) (x : Pnt) (v : Value) (q2 qn : Bool) (yn : Value) (qa : Bool) (ya : Value) (w' : World) : Prop :=
  KZ Z b w w' ∧ Z ≤ w'.heap.size ∧ w'.heap[rb]? = some (.cells #[.int .i64 kind, .slice none 0 0, v] 29 (0, 0)) ∧ InAt w' b (if q2 = true then s1 else s) ∧ (qa = false → ownPoints w' Z v rs) ∧
    (qn = true → qa = false → ∃ nb, yn = .slice (some ⟨nb, 0, none⟩) 1 1 ∧ w'.heap[nb]? = some (.cells #[.int .i64 x.1, .int .i64 x.2.1, .int .u64 (x.2.2 : Nat)] 64 (0, 0))) ∧
    (qa = true → ownPoints w' Z ya (rs ++ [x]))
theorem pntJ.lay {w : World} {Z b rb : Nat} {kind : Int} {rs : List Pnt} {s s1 : List UInt8} {x : Pnt} {v yn ya : Value} {w' : World} (h : pntJ w Z b rb kind rs s s1 x v true false yn false ya w') (za : Value) :
    pntJ w Z b rb kind rs s s1 x v true true (.slice (some ⟨w'.heap.size, 0, none⟩) 1 1) false za (w'.alloc (.cells #[.int .i64 x.1, .int .i64 x.2.1, .int .u64 (x.2.2 : Nat)] 64)) := by
  obtain ⟨hk, hZ, hr, hi, ho, _, _⟩ := h
  have hg : Grow w' (w'.alloc (.cells #[.int .i64 x.1, .int .i64 x.2.1, .int .u64 (x.2.2 : Nat)] 64)) := (Grow.refl _).alloc _
  exact ⟨hk.trans (belowKZ (Below.mono hg hZ) b), by have := hg.size; omega, hg.get hr, hi.grow hg, fun _ => Lb.own_grow (ho rfl) hg, fun _ _ => ⟨_, rfl, heap_alloc_new _ _⟩, fun h => by cases h⟩
set_option maxRecDepth 20000 in
theorem pntJ.append {w : World} {Z b rb : Nat} {kind : Int} {rs : List Pnt} {s s1 : List UInt8} {x : Pnt} {ao : Option Addr} {cp : Nat} {yn ya : Value} {w' : World} (h : pntJ w Z b rb kind rs s s1 x (.slice ao rs.length cp) true true yn false ya w') (hl : rs.length ≤ 1000) (ty : TypeId) :
    ∃ ao' cp' w3, (Builtin.append_ #[27, 27] ty #[.slice ao rs.length cp, yn]).run Tryz.prog w' = .ok (.slice ao' (rs.length + 1) cp') w3 ∧ ∀ zn, pntJ w Z b rb kind rs s s1 x (.slice ao rs.length cp) true true zn true (.slice ao' (rs.length + 1) cp') w3 := by
  obtain ⟨i0, hi0, hz0, hz1, hz2⟩ := info_parts infoPntT
  obtain ⟨hk, hZ, hr, hi, ho, hn, _⟩ := h
  have hrow := ho rfl
  obtain ⟨nb, rfl, hnb⟩ := hn rfl rfl
  obtain ⟨ao', cp', w3, hrun, hown3, hbel, hty⟩ := app_one (ty := ty) (news := [.int .i64 x.1, .int .i64 x.2.1, .int .u64 (x.2.2 : Nat)]) Tryz.underPnts hi0 hz0 hz1 hz2 rfl (by omega) hrow hnb rfl (by simp [Value.oneCell']) (by omega) (by omega) hZ
  refine ⟨ao', cp', w3, hrun, fun zn => ⟨hk.trans (belowKZ hbel b), by have := hbel.size; omega, hty _ _ _ _ hr (by decide), hty _ _ _ _ hi (by decide), (fun h => by cases h), (fun _ h => by cases h), fun _ => ?_⟩⟩
  unfold ownPoints
  rw [pntCells_snoc, List.length_append]
  exact hown3
/-- A record that is being read: its points so far, and what is not read yet. -/
def inRecP (Z b rb : Nat) (kind : Int) (k : Nat) (st : List Pnt × List UInt8) (w : World) : Prop :=
  Z ≤ w.heap.size ∧ st.2.length ≤ 140737488355328 ∧ st.1.length ≤ k ∧ InAt w b st.2 ∧ ∃ v, w.heap[rb]? = some (.cells #[.int .i64 kind, .slice none 0 0, v] 29 (0, 0)) ∧ ownPoints w Z v st.1
def stepP (st : List Pnt × List UInt8) : Option (List Pnt × List UInt8) := mapO (fun x => st.1 ++ [x]) (cutP st.2)
theorem pntJ.put {w : World} {Z b rb : Nat} {kind : Int} {rs : List Pnt} {s s1 : List UInt8} {x : Pnt} {v yn ya : Value} {w' : World} {k : Nat} (h : pntJ w Z b rb kind rs s s1 x v true true yn true ya w') (hs : s1.length ≤ 140737488355328) (hl : rs.length ≤ k) (hx : Z ≤ rb) (hbx : b ≠ rb) :
    KZ Z b w (w'.setCell ⟨rb, 2, none⟩ ya) ∧ inRecP Z b rb kind (k + 1) (rs ++ [x], s1) (w'.setCell ⟨rb, 2, none⟩ ya) := by
  obtain ⟨hk, hZ, hr, hi, _, _, ho⟩ := h
  refine ⟨hk.setNew hx _ _, by simpa [World.setCell] using hZ, hs, by rw [List.length_append]; simp; omega, hi.other (Ne.symm hbx) _ _, ya, ?_, ?_⟩
  · have := set3 hr 2 ya
    simpa using this
  · have ho := ho rfl
    exact ownsRow_setCell_other (a := ⟨rb, 2, none⟩) ho (own_apart ho hr (by decide)) _
theorem bindO_some {α β : Type} {o : Option (α × List UInt8)} {f : α → List UInt8 → Option (β × List UInt8)} {y : β × List UInt8} (h : bindO o f = some y) : ∃ x s, o = some (x, s) ∧ f x s = some y := by
  unfold bindO at h
  cases o with
  | none => cases h
  | some p => exact ⟨p.1, p.2, rfl, h⟩
theorem cutP_len {s r : List UInt8} {x : Pnt} (h : cutP s = some (x, r)) : r.length ≤ s.length := by
  unfold cutP at h
  obtain ⟨a, s1, h1, h⟩ := bindO_some h
  obtain ⟨t, s2, h2, h⟩ := bindO_some h
  obtain ⟨n1, e1, _⟩ := mapO_some h1
  obtain ⟨n2, e2, _⟩ := mapO_some h2
  obtain ⟨n3, e3, _⟩ := mapO_some h
  have := cutN_len e1
  have := cutN_len e2
  unfold cut8 at e3
  by_cases h8 : 8 ≤ s2.length
  · rw [if_pos h8] at e3
    cases e3
    rw [List.length_drop]
    omega
  · rw [if_neg h8] at e3; cases e3
set_option maxRecDepth 20000 in
set_option maxHeartbeats 4000000 in
theorem unp2_any (w : World) (Z b rb : Nat) (kind : Int) (k : Nat) (st : List Pnt × List UInt8) (hk200 : k < 200) (hb : b < Z) (hrb : Z ≤ rb) (h : inRecP Z b rb kind k st w) :
    Calls Tryz.prog 68 #[.pointer (some ⟨rb, 0, none⟩), .pointer (some ⟨b, 0, none⟩)] w (turned (fun st' w' => KZ Z b w w' ∧ inRecP Z b rb kind (k + 1) st' w') (fun w' => KZ Z b w w') (stepP st)) := by
  obtain ⟨rs, s⟩ := st
  obtain ⟨hZ, hsl, hll, hin, v, hx, ho⟩ := h
  simp only at hsl hll hin ho
  obtain ⟨O, HO⟩ : ∃ O, Hid (stepP (rs, s) = O) := ⟨_, hide rfl⟩
  rw [HO.out]
  obtain ⟨ao, cp, rfl⟩ := own_shape ho
  obtain ⟨x, X1⟩ : ∃ x, Hid (((cutP s).getD ((0, 0, 0), [])).1 = x) := ⟨_, hide rfl⟩
  obtain ⟨s1, S1⟩ : ∃ s1, Hid (((cutP s).getD ((0, 0, 0), [])).2 = s1) := ⟨_, hide rfl⟩
  have C1 : Hid (∀ c, cutP s = some c → cutP s = some (x, s1) ∧ s1.length ≤ 140737488355328) := hide fun c hc => by
    obtain ⟨c1, c2⟩ := c
    have h1 := X1.out
    have h2 := S1.out
    rw [hc] at h1 h2
    simp only [Option.getD_some] at h1 h2
    subst h1 h2
    exact ⟨hc, by have := cutP_len hc; omega⟩
  have N1 : Hid (cutP s = none → O = none) := hide fun hc => by rw [← HO.out]; unfold stepP mapO; simp only; rw [hc]; rfl
  have Y : Hid (cutP s = some (x, s1) → O = some (rs ++ [x], s1)) := hide fun hc => by rw [← HO.out]; unfold stepP mapO; simp only; rw [hc]; rfl
  have HX := hide hx
  have HIN := hide hin
  have HOW := hide ho
  have HSL := hide hsl
  clear HO X1 S1 hx hin ho hsl
  go_enter Tryz.func68, Tryz.ntmps68
  go_wp2
  refine wp_region_state 6 8 mixedR rfl (by decide +kernel) (fun L vals w' => pntJ w Z b rb kind rs s s1 x (.slice ao rs.length cp) (L 2) (L 3) (vals 3) (L 4) (vals 4) w')
    (fun L vals h => ?_)
    (fun i v => match i with
      | 0 => v = .pointer (some ⟨rb, 2, none⟩)
      | 1 => v = .slice ao rs.length cp
      | 2 => cutP s = some (x, s1) ∧ v = pntV x
      | 3 => True
      | 4 => ∃ ao' cp', v = .slice ao' (rs.length + 1) cp'
      | _ => v = .pointer (some ⟨rb, 2, none⟩))
    (gaveQ (O = none) Z b w) (fun ch a w2 hd hq => ?_) (fun i hi o ho a w2 L vals hLi hLc hLe hJ hoff hval hdep => ?_) (fun vals w2 L hL hJ hvals => ?_)
  · simp only [h]
    exact ⟨⟨rfl, rfl, rfl, Nat.le_refl _, fun _ _ _ => rfl⟩, hZ, HX.out, HIN.out, fun _ => HOW.out, (fun h => by cases h), (fun h => by cases h)⟩
  · obtain ⟨hq0, ⟨E, hE, hq1⟩, hq2⟩ := hq
    simp only [Ending.panicked.injEq] at hq1
    subst hq1
    refine ⟨hd, ?_⟩
    rw [hq0]
    exact ⟨⟨E, hE, rfl⟩, hq2⟩
  · obtain ⟨hk, hZ2, hrb2, hin2, hown, hnew, hown2⟩ := id hJ
    obtain ⟨cx0, cx1, cx2⟩ := three_of hrb2
    match i, hi with
    | 0, _ =>
      obtain rfl := Option.some.inj ho
      have o0 := hoff 0 (by decide +kernel)
      simp at o0
      simp [opYields, go_sem, o0]
      exact hJ
    | 1, _ =>
      obtain rfl := Option.some.inj ho
      have d0 := hdep 0 (by decide +kernel)
      simp [slotOf, dstOf] at d0
      simp [opYields, go_sem, d0, cx2]
      exact hJ
    | 2, _ =>
      have h3 : L 3 = false := by
        cases h : L 3 with
        | false => rfl
        | true => have := hLc 3 h 2 (by decide +kernel); rw [hLi] at this; cases this
      have h4 : L 4 = false := by
        cases h : L 4 with
        | false => rfl
        | true => have := hLc 4 h 3 (by decide +kernel); rw [h3] at this; cases this
      obtain rfl := Option.some.inj ho
      have o1 := hoff 1 (by decide +kernel)
      simp at o1
      simp [opYields, go_sem, o1]
      rw [hLi] at hin2
      refine (point_r w2 b s hin2 HSL.out).mono ?_
      rintro e w3 ha
      unfold readAs at ha
      obtain ⟨hk3, ha⟩ := ha
      cases hc : cutP s with
      | none =>
        rw [hc] at ha
        obtain ⟨E, hE, rfl⟩ := ha
        exact ⟨N1.out hc, ⟨E, hE, rfl⟩, hk.trans (hk3.kz hZ2)⟩
      | some c =>
        obtain ⟨hc1, hc2⟩ := C1.out c hc
        obtain rfl : c = (x, s1) := by rw [hc] at hc1; exact Option.some.inj hc1
        rw [hc] at ha
        obtain ⟨rfl, hi3⟩ := ha
        refine ⟨⟨hk.trans (hk3.kz hZ2), by have := hk3.size; omega, hk3.get hrb2 (by omega), by simpa using hi3, fun h => own_stay (hown h4) (hk3.stay hb), fun h => ?_, fun h => ?_⟩, ?_⟩
        · simp [h3] at h
        · simp [h4] at h
        · exact ⟨rfl, rfl⟩
    | 3, _ =>
      have h2 := hLe 2 (by decide +kernel)
      have h4 : L 4 = false := by
        cases h : L 4 with
        | false => rfl
        | true => have := hLc 4 h 3 (by decide +kernel); rw [hLi] at this; cases this
      obtain rfl := Option.some.inj ho
      have d2 := (hdep 2 (by decide +kernel)).2
      simp [slotOf, dstOf, pntV] at d2
      rw [hLi, h2, h4] at hJ
      have hJ2 := hJ.lay
      simp [opYields, go_sem, d2, h2, h4]
      exact hJ2 _
    | 4, _ =>
      have h3 := hLe 3 (by decide +kernel)
      have h2 := hLc 3 h3 2 (by decide +kernel)
      obtain rfl := Option.some.inj ho
      have d1 := hdep 1 (by decide +kernel)
      have d3 := hval 3 (by decide +kernel)
      simp [slotOf, dstOf] at d1 d3
      rw [hLi, h3, h2] at hJ
      obtain ⟨ao', cp', w3, hrun, hJ3⟩ := pntJ.append hJ (by omega) 27
      refine yields_append rfl (.tmp 3) (.tmp 5) _ _ rfl (v1 := .slice ao rs.length cp) (v2 := vals 3) (by simpa [Act.eval] using d1) (by simpa [Act.eval] using d3) hrun ?_
      simp only [h3, h2]
      exact ⟨hJ3 _, ao', cp', rfl⟩
    | 5, _ =>
      obtain rfl := Option.some.inj ho
      have o0 := hoff 0 (by decide +kernel)
      simp at o0
      simp [opYields, go_sem, o0]
      exact hJ
    | k + 6, h => exact absurd h (by omega)
  · have h2 := hL 2 (by omega)
    have h3 := hL 3 (by omega)
    have h4 := hL 4 (by omega)
    rw [h2, h3, h4] at hJ
    have hc1 := (hvals 2 (by omega)).1
    obtain ⟨ao', cp', v4⟩ := hvals 4 (by omega)
    have v5 := hvals 5 (by omega)
    simp only at v5
    have hP := hJ.put (k := k) (C1.out _ hc1).2 hll hrb (by omega)
    obtain ⟨_, _, hrb2, _⟩ := hJ
    rw [v4] at hP
    have HPT := hide hP
    have HY := hide (Y.out hc1)
    obtain ⟨cx0, cx1, cx2⟩ := three_of hrb2
    have z1 : w2.frozen? ⟨rb, 2, none⟩ = false := by simp only [World.frozen?, hrb2]; rfl
    clear hvals hP hrb2 hc1
    simp [over, dstOf, Act.put, v4, v5]
    go_wp2
    go_end0
    rw [HY.out]
    exact ⟨rfl, HPT.out⟩
end Go.Proofs.YtkaeogldielkfaaGreat.Rc
