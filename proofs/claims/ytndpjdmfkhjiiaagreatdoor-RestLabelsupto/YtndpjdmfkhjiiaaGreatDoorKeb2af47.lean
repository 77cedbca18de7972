/- 1 texts in one. -/
import Derived.Test.YtndpjdmfkhjiiaaGreatDoorProg
import Derived.Test.YtndpjdmfkhjiiaaGreatDoorK97fdc06
import Derived.Test.YtndpjdmfkhjiiaaGreatDoorK58b8031
import Derived.Test.YtndpjdmfkhjiiaaGreatDoorKa9444aa
import Derived.Test.YtndpjdmfkhjiiaaGreatDoorK2069ade
import Derived.Maps.OwnSet
import Derived.Maps.OwnOps
import Derived.Maps.Views
import Derived.BigFrame
set_option linter.unusedVariables false
set_option linter.unusedSimpArgs false
namespace Go.Proofs.YtndpjdmfkhjiiaaGreatDoor.Rl
open Go.RowKit Go.Maps
attribute [local go_sem] bs_size bs_toList bs_append bs_get bs_extract
/-- What is wrong with what only rules of its kind ask for. -/
def kindErr (r : Rul) : Nat :=
  if r.kind = 1 then (if Lb.nameB r.target = true ∧ tmB r.repl = true then 0 else 1)
  else if r.kind = 4 then (if Lb.nameB r.target = true then (if r.modulus < 1 ∨ 1000000 < r.modulus then 3 else 0) else 1)
  else if r.kind = 5 then (if tmB r.repl = true then 0 else 1)
  else 0
set_option maxRecDepth 20000 in
set_option maxHeartbeats 4000000 in
theorem checkByKind_any (w : World) (r : Rul) (v : Value) (hr : okR r) (h100 : r.repl.length ≤ 100) :
    Calls Tryz.prog 31 #[ruleV r v] w fun e w' => e = .returned (.int .i64 (kindErr r)) ∧ Grow w w' := by
  obtain ⟨kind, src, bt, mk, md, tg, rp⟩ := r
  obtain ⟨hr1, hr2, hr3, hr4, hr5, hr6⟩ := hr
  simp only at hr1 hr2 hr3 hr4 hr5 hr6 h100
  clear hr1 hr2 hr3 hr4 hr6
  unfold ruleV kindErr
  simp only
  obtain ⟨W, eW, gW, sW, hW⟩ := laid_rule w (.int .i64 kind) v (.string (bs bt)) (.string (bs mk)) (.int .i64 md) (.string (bs tg)) (.string (bs rp)) 24
  obtain ⟨c0, c1, c2, c3, c4, c5, c6⟩ := seven_cells hW
  have HGW := hide gW
  clear gW hW c1 c2 c3
  have HT := hide fun W => isTemplate_any rp W h100
  have HN := hide fun W => Lb.isName_any tg W (by unfold maxLen; omega)
  generalize tmB rp = B at HT ⊢
  generalize Lb.nameB tg = C at HN ⊢
  obtain ⟨E, HE⟩ : ∃ E : Nat, Hid ((if kind = 1 then (if C = true ∧ B = true then 0 else 1) else if kind = 4 then (if C = true then (if md < 1 ∨ 1000000 < md then 3 else 0) else 1) else if kind = 5 then (if B = true then 0 else 1) else 0) = E) := ⟨_, hide rfl⟩
  rw [HE.out]
  by_cases k1 : kind = 1
  · subst k1
    cases C with
    | false =>
      have HE2 : Hid ((1 : Int) = E) := by rw [← HE.out]; simp [Hid]
      go_enter Tryz.func31, Tryz.ntmps31
      go_wp2_with (go_at_call 49; refine (HN.out _).mono ?_; rintro e w' ⟨rfl, rfl⟩)
      go_ret
      exact ⟨ret_int HE2.out, HGW.out⟩
    | true =>
      cases B with
      | false =>
        have HE2 : Hid ((1 : Int) = E) := by rw [← HE.out]; simp [Hid]
        go_enter Tryz.func31, Tryz.ntmps31
        go_wp2_with (first | (go_at_call 49; refine (HN.out _).mono ?_; rintro e w' ⟨rfl, rfl⟩) | (go_at_call 72; refine (HT.out _).mono ?_; rintro e w' ⟨rfl, hg2⟩))
        go_ret
        exact ⟨ret_int HE2.out, HGW.out.trans hg2⟩
      | true =>
        have HE2 : Hid ((0 : Int) = E) := by rw [← HE.out]; simp [Hid]
        go_enter Tryz.func31, Tryz.ntmps31
        go_wp2_with (first | (go_at_call 49; refine (HN.out _).mono ?_; rintro e w' ⟨rfl, rfl⟩) | (go_at_call 72; refine (HT.out _).mono ?_; rintro e w' ⟨rfl, hg2⟩))
        go_ret
        exact ⟨ret_int HE2.out, HGW.out.trans hg2⟩
  · have k1' : (kind == 1) = false := by simpa using k1
    by_cases k4 : kind = 4
    · subst k4
      cases C with
      | false =>
        have HE2 : Hid ((1 : Int) = E) := by rw [← HE.out]; simp [Hid]
        clear k1 k1'
        go_enter Tryz.func31, Tryz.ntmps31
        go_wp2_with (go_at_call 49; refine (HN.out _).mono ?_; rintro e w' ⟨rfl, rfl⟩)
        go_ret
        exact ⟨ret_int HE2.out, HGW.out⟩
      | true =>
        by_cases m1 : md < 1
        · have HE2 : Hid ((3 : Int) = E) := by rw [← HE.out]; simp [Hid, m1]
          clear k1 k1'
          go_enter Tryz.func31, Tryz.ntmps31
          go_wp2_with (go_at_call 49; refine (HN.out _).mono ?_; rintro e w' ⟨rfl, rfl⟩)
          go_ret
          exact ⟨ret_int HE2.out, HGW.out⟩
        · by_cases m2 : 1000000 < md
          · have HE2 : Hid ((3 : Int) = E) := by rw [← HE.out]; simp [Hid, m2]
            clear k1 k1'
            go_enter Tryz.func31, Tryz.ntmps31
            go_wp2_with (go_at_call 49; refine (HN.out _).mono ?_; rintro e w' ⟨rfl, rfl⟩)
            go_ret
            exact ⟨ret_int HE2.out, HGW.out⟩
          · have HE2 : Hid ((0 : Int) = E) := by rw [← HE.out]; simp [Hid, m1, m2]
            clear k1 k1'
            go_enter Tryz.func31, Tryz.ntmps31
            go_wp2_with (go_at_call 49; refine (HN.out _).mono ?_; rintro e w' ⟨rfl, rfl⟩)
            go_ret
            exact ⟨ret_int HE2.out, HGW.out⟩
    · have k4' : (kind == 4) = false := by simpa using k4
      by_cases k5 : kind = 5
      · subst k5
        clear k1 k4 k1' k4'
        cases B with
        | false =>
          have HE2 : Hid ((1 : Int) = E) := by rw [← HE.out]; simp [Hid]
          go_enter Tryz.func31, Tryz.ntmps31
          go_wp2_with (go_at_call 72; refine (HT.out _).mono ?_; rintro e w' ⟨rfl, hg2⟩)
          go_ret
          exact ⟨ret_int HE2.out, HGW.out.trans hg2⟩
        | true =>
          have HE2 : Hid ((0 : Int) = E) := by rw [← HE.out]; simp [Hid]
          go_enter Tryz.func31, Tryz.ntmps31
          go_wp2_with (go_at_call 72; refine (HT.out _).mono ?_; rintro e w' ⟨rfl, hg2⟩)
          go_ret
          exact ⟨ret_int HE2.out, HGW.out.trans hg2⟩
      · have k5' : (kind == 5) = false := by simpa using k5
        have HE2 : Hid ((0 : Int) = E) := by rw [← HE.out]; simp [Hid, k1, k4, k5]
        clear k1 k4 k5
        go_enter Tryz.func31, Tryz.ntmps31
        go_wp2
        go_ret
        exact ⟨ret_int HE2.out, HGW.out⟩
/-- A composite literal's entry: as 'm[k] = v'. -/
theorem wpList_insert_own {H : Type} {P : Program} (w : World) {ops : Array Oper} {rest : List Oper} {o : Oper} {a : Act} {Q : Exit → Act → World → Prop}
    (hg : o.guard = none) (m x v : Operand) (t : TypeId) (hop : o.op = Op.insert t m x v)
    (k e : TypeId) (K : Keyed P k) (ht : P.underlying t = some (.map k e)) (R : Value → Option (DataW H × List MemPlace)) (b n : Nat) (D : DataW H)
    (hm : a.eval m = .map (some b)) (hown : w.ownsMap P k R b n D) (hn : n < maxLen) (key val : Value) (kl : Lit) (hx : a.eval x = key) (hv : a.eval v = val) (hkey : keyOf P k key = some kl)
    (d : DataW H) (ps : List MemPlace) (hval : R val = some (d, ps))
    (hK : ∀ w', w'.ownsMap P k R b (n + 1) (D.put kl d) → w.grownBy w' (some b) → wpList P ops Q rest (a.put o.dst undef) w') :
    wpList P ops Q (o :: rest) a w := by
  refine wpList_plain hg fun K' hK' => ?_
  obtain ⟨w', hrun, r1, r2⟩ := hown.update K ht hn hkey hval
  unfold Oper.wp
  simp [execOp, hop, hm, hx, hv, hrun, Result.andThen]
  exact hK' _ _ (hK w' r1 r2)
/-- How a deed reads: by its function's number. -/
def funE : Value → Option (DataW Unit × List MemPlace)
  | .func (.func n) a b => if a.isEmpty = true ∧ b.isEmpty = true then some (.lit (.int .i64 n), []) else none
  | .nilFunc => some (.lit (.int .i64 (-1)), [])
  | _ => none
theorem funE_mk (n : Nat) : funE (.func (.func n) #[] #[]) = some (.lit (.int .i64 n), []) := by simp [funE]
theorem funE_inv {v : Value} {n : Nat} {z : List MemPlace} (h : funE v = some (.lit (.int .i64 n), z)) : v = .func (.func n) #[] #[] := by
  unfold funE at h
  split at h
  · rename_i n' a b
    split at h
    · rename_i hab
      obtain ⟨ha, hb⟩ := hab
      injection h with h
      injection h with h _
      injection h with h
      have h2 : (n' : Int) = n := congrArg (fun l => match l with | Lit.int _ a => a | _ => 0) h
      obtain rfl : n' = n := @Int.ofNat.inj n' n h2
      rw [Array.isEmpty_iff.1 ha, Array.isEmpty_iff.1 hb]
    · cases h
  · simp only [Option.some.injEq, Prod.mk.injEq, DataW.lit.injEq, Lit.int.injEq] at h
    have h1 : (-1 : Int) = (n : Int) := h.1.2
    exact absurd h1 (by omega)
  · cases h
/-- A deed's number by its kind. -/
def deedNo (k : Int) : Nat := if k = 1 then 60 else if k = 2 then 61 else if k = 3 then 63 else if k = 4 then 64 else if k = 5 then 65 else if k = 6 then 66 else 69
/-- The deeds, by their kinds. -/
def deedsD : DataW Unit :=
  DataW.put (DataW.put (DataW.put (DataW.put (DataW.put (DataW.put (DataW.put (.map [])
    (.int .i64 1) (.lit (.int .i64 60))) (.int .i64 2) (.lit (.int .i64 61))) (.int .i64 3) (.lit (.int .i64 63))) (.int .i64 4) (.lit (.int .i64 64)))
    (.int .i64 5) (.lit (.int .i64 65))) (.int .i64 6) (.lit (.int .i64 66))) (.int .i64 7) (.lit (.int .i64 69))
theorem lit_ne {a b : Int} (h : a ≠ b) : (Lit.int .i64 a) ≠ .int .i64 b := fun e => h (by injection e)
theorem deeds_has (k : Int) : Maps.has deedsD (.int .i64 k) = decide (1 ≤ k ∧ k ≤ 7) := by
  by_cases h : 1 ≤ k ∧ k ≤ 7
  · rw [decide_eq_true h]
    have h7 : k = 1 ∨ k = 2 ∨ k = 3 ∨ k = 4 ∨ k = 5 ∨ k = 6 ∨ k = 7 := by omega
    rcases h7 with rfl | rfl | rfl | rfl | rfl | rfl | rfl <;> rfl
  · rw [decide_eq_false h]
    unfold deedsD
    rw [has_put_other (lit_ne (by omega)), has_put_other (lit_ne (by omega)), has_put_other (lit_ne (by omega)), has_put_other (lit_ne (by omega)), has_put_other (lit_ne (by omega)), has_put_other (lit_ne (by omega)), has_put_other (lit_ne (by omega))]
    rfl
theorem deeds_at (k : Int) (h : 1 ≤ k ∧ k ≤ 7) (d : DataW Unit) : deedsD.atKey (.int .i64 k) d = .lit (.int .i64 (deedNo k)) := by
  have h7 : k = 1 ∨ k = 2 ∨ k = 3 ∨ k = 4 ∨ k = 5 ∨ k = 6 ∨ k = 7 := by omega
  rcases h7 with rfl | rfl | rfl | rfl | rfl | rfl | rfl <;> rfl
set_option maxRecDepth 20000 in
set_option maxHeartbeats 4000000 in
theorem deeds_any (w : World) : Calls Tryz.prog 29 #[] w fun e w' => e = .returned (.map (some w.heap.size)) ∧ Grow w w' ∧ w.heap.size + 1 ≤ w'.heap.size ∧ w'.ownsMap Tryz.prog 3 funE w.heap.size 7 deedsD := by
  have K : Keyed Tryz.prog 3 := int_keyed Tryz.underlying3
  have hmm := @run_makeMap Tryz.prog
  obtain ⟨W0, eW0, hown, hsz, HG⟩ : ∃ W0, w.alloc (Obj.map #[] 0) = W0 ∧ W0.ownsMap Tryz.prog 3 funE w.heap.size 0 (.map []) ∧ W0.heap.size = w.heap.size + 1 ∧ Below w.heap.size w W0 := ⟨_, rfl, World.ownsMap_made _ _ _ _, by simp, (Grow.refl w).alloc _⟩
  have hs1 : w.heap.size + 1 ≤ W0.heap.size := by omega
  clear hsz
  go_enter Tryz.func29, Tryz.ntmps29
  go_wp2_with (refine wpList_insert_own _ rfl _ _ _ 60 rfl 3 58 K Tryz.underlying60 funE w.heap.size _ _ rfl (by assumption) (by unfold maxLen; omega) _ _ _ rfl rfl (keyOf_int_mk Tryz.underlying3 (by decide)) _ _ (funE_mk _) ?_; clear hown; intro w1 hown hgrow1; replace HG := Below.grown HG hgrow1 HG.size (fun j hj => by cases hj; exact Nat.le_refl _); replace hs1 := Nat.le_trans hs1 hgrow1.size; clear hgrow1)
  go_ret
  exact ⟨rfl, HG, hs1, hown⟩
set_option maxRecDepth 20000 in
set_option maxHeartbeats 4000000 in
/-- What is wrong with a rule. -/
def ruleErr (r : Rul) : Nat := if 1 ≤ r.kind ∧ r.kind ≤ 7 then (if partsErr r ≠ 0 then partsErr r else kindErr r) else 7
theorem parts_short {r : Rul} (h : partsErr r = 0) : r.repl.length ≤ 100 := by
  unfold partsErr at h
  by_cases hm : manyR r
  · rw [if_pos hm] at h
    cases h
  · unfold manyR at hm
    omega
set_option maxRecDepth 20000 in
set_option maxHeartbeats 4000000 in
theorem checkRule_any (w : World) (r : Rul) (v : Value) (hv : readsStrs w w.heap.size v r.sources) (hr : okR r) (hk : (Lit.int .i64 r.kind).wf = true) :
    Calls Tryz.prog 11 #[ruleV r v] w fun e w' => e = .returned (.int .i64 (ruleErr r)) ∧ Grow w w' := by
  have K : Keyed Tryz.prog 3 := int_keyed Tryz.underlying3
  obtain ⟨W, eW, gW, sW, hW⟩ := laid_rule w (.int .i64 r.kind) v (.string (bs r.between)) (.string (bs r.mask)) (.int .i64 r.modulus) (.string (bs r.target)) (.string (bs r.repl)) 24
  have HP : Hid (∀ W, Grow w W → Calls Tryz.prog 30 #[ruleV r v] W fun e w' => e = .returned (.int .i64 (partsErr r)) ∧ Grow W w') := hide fun W hg => checkParts_any W r v ((hv.keep hg).more hg.size) hr
  have HK : Hid (partsErr r = 0 → ∀ W, Calls Tryz.prog 31 #[ruleV r v] W fun e w' => e = .returned (.int .i64 (kindErr r)) ∧ Grow W w') := hide fun h W => checkByKind_any W r v hr (parts_short h)
  obtain ⟨E, HE⟩ : ∃ E : Nat, Hid (ruleErr r = E) := ⟨_, hide rfl⟩
  have HE1 : Hid ((if 1 ≤ r.kind ∧ r.kind ≤ 7 then (if partsErr r ≠ 0 then partsErr r else kindErr r) else 7) = E) := HE
  rw [HE.out]
  unfold ruleV at HP HK ⊢
  obtain ⟨kind, src, bt, mk, md, tg, rp⟩ := r
  simp only at HP HK HE1 hW eW hk ⊢
  generalize partsErr _ = P1 at HP HK HE1
  generalize kindErr _ = P2 at HK HE1
  have hkey : keyOf Tryz.prog 3 (.int .i64 kind) = some (.int .i64 kind) := keyOf_int_mk Tryz.underlying3 hk
  obtain ⟨B, HB⟩ : ∃ B, Hid (decide (1 ≤ kind ∧ kind ≤ 7) = B) := ⟨_, hide rfl⟩
  have HLook : Hid (∀ w2 b, w2.ownsMap Tryz.prog 3 funE b 7 deedsD → ∃ f, (Instr.lookup 60 (.map (some b)) (.int .i64 kind) true).run Tryz.prog w2 = .ok (.tuple #[f, .bool B]) w2) := hide (by
    intro w2 b hown
    obtain ⟨f, ps, hrun, _⟩ := hown.look_ok K Tryz.underlying60 (Tryz.zeroValue58 _) (zd := .lit (.int .i64 (-1))) (zp := []) rfl hkey
    rw [deeds_has, HB.out] at hrun
    exact ⟨f, hrun⟩)
  have HGW := hide gW
  have HW := hide hW
  clear gW hv hr HE hkey K hk
  go_enter Tryz.func11, Tryz.ntmps11
  go_wp2
  refine wp_region_free 8 22 Tryz.mixed2 rfl (by decide +kernel) Grow (fun _ _ _ => Grow.trans) (Grow.refl _)
    (fun i v w' => match i with
      | 0 => ∃ b, v = .map (some b) ∧ b < w'.heap.size ∧ w'.ownsMap Tryz.prog 3 funE b 7 deedsD
      | 1 => v = .pointer (some ⟨w.heap.size, 0, none⟩)
      | 2 => v = .int .i64 kind
      | 3 => ∃ f, v = .tuple #[f, .bool B]
      | 4 => ∃ f, v = .tuple #[f, .bool B]
      | 5 => True
      | 6 => v = .bool B
      | _ => True)
    (fun i v w1 w2 h hg => by
      match i, h with
      | 0, ⟨b, e, hb, es, c, h1, h2⟩ => exact ⟨b, e, Nat.lt_of_lt_of_le hb hg.size, es, c, hg.get h1, h2⟩
      | 1, h => exact h
      | 2, h => exact h
      | 3, h => exact h
      | 4, h => exact h
      | 5, h => exact h
      | 6, h => exact h
      | k + 7, h => exact h) (fun _ _ => False) (fun _ _ _ _ h => h.elim) (fun i hi o ho a2 w2 hG hoff hdep => ?_) (fun vals w2 hG hvals => ?_)
  · have hg2 : Grow W w2 := hG.undrew
    obtain ⟨c0, c1, c2, c3, c4, c5, c6⟩ := seven_cells (hg2.get HW.out)
    match i, hi with
    | 0, _ =>
      obtain rfl := Option.some.inj ho
      simp [opYields, go_sem]
      refine (deeds_any w2).mono ?_
      rintro e w3 ⟨rfl, hb, hs, hown⟩
      exact ⟨hb, _, rfl, by omega, hown⟩
    | 1, _ =>
      obtain rfl := Option.some.inj ho
      have o1 := hoff 1 (by decide +kernel)
      simp at o1
      simp [opYields, go_sem, o1]
      exact Grow.refl _
    | 2, _ =>
      obtain rfl := Option.some.inj ho
      have d1 := hdep 1 (by decide +kernel)
      simp [slotOf, dstOf] at d1
      simp [opYields, go_sem, d1, c0]
      exact Grow.refl _
    | 3, _ =>
      obtain rfl := Option.some.inj ho
      have d0 := hdep 0 (by decide +kernel)
      simp [slotOf, dstOf] at d0
      have d2 := hdep 2 (by decide +kernel)
      simp [slotOf, dstOf] at d2
      obtain ⟨b, eb, _, hown⟩ := d0
      obtain ⟨f, hrun⟩ := HLook.out w2 b hown
      simp [opYields, go_sem, d2, eb, hrun]
      exact Grow.refl _
    | 4, _ =>
      obtain rfl := Option.some.inj ho
      have d3 := hdep 3 (by decide +kernel)
      simp [slotOf, dstOf] at d3
      obtain ⟨f, ef⟩ := d3
      simp [opYields, go_sem, ef]
      exact Grow.refl _
    | 5, _ =>
      obtain rfl := Option.some.inj ho
      have d4 := hdep 4 (by decide +kernel)
      simp [slotOf, dstOf] at d4
      obtain ⟨f, ef⟩ := d4
      simp [opYields, go_sem, ef]
      exact Grow.refl _
    | 6, _ =>
      obtain rfl := Option.some.inj ho
      have d4 := hdep 4 (by decide +kernel)
      simp [slotOf, dstOf] at d4
      obtain ⟨f, ef⟩ := d4
      simp [opYields, go_sem, ef]
      exact Grow.refl _
    | 7, _ =>
      obtain rfl := Option.some.inj ho
      have d5 := hdep 5 (by decide +kernel)
      simp [slotOf, dstOf] at d5
      simp [opYields, go_sem]
      exact Grow.refl _
    | k + 8, h => exact absurd h (by omega)
  · have v6 := hvals 6 (by omega)
    simp only at v6
    clear hvals
    have hg2 : Grow W w2 := hG.undrew
    have HG2 : Hid (Grow w w2) := hide (HGW.out.trans hg2)
    have HW2 := hide (hg2.get HW.out)
    obtain ⟨c0, c1, c2, c3, c4, c5, c6⟩ := seven_cells HW2.out
    clear hg2 hG eW
    simp [over, dstOf, Act.put, v6]
    cases B with
    | false =>
      have HE2 : Hid ((7 : Int) = E) := by
        rw [← HE1.out, if_neg (of_decide_eq_false HB.out)]
        exact hide rfl
      go_wp2
      go_ret
      exact ⟨ret_int HE2.out, HG2.out⟩
    | true =>
      rw [if_pos (of_decide_eq_true HB.out)] at HE1
      go_wp2_with fail
      refine (HP.out w2 HG2.out).mono ?_
      rintro e w3 ⟨rfl, hg3⟩
      have HG3 : Hid (Grow w w3) := hide (HG2.out.trans hg3)
      obtain ⟨b0, b1, b2, b3, b4, b5, b6⟩ := seven_cells (hg3.get HW2.out)
      clear hg3
      by_cases hp : P1 = 0
      · subst hp
        have HE2 : Hid (P2 = E) := by simpa [Hid] using HE1.out
        go_wp2_with fail
        refine (HK.out (by trivial) w3).mono ?_
        rintro e w4 ⟨rfl, hg4⟩
        go_wp2
        go_ret
        exact ⟨ret_int (by rw [HE2.out]), HG3.out.trans hg4⟩
      · have HE2 : Hid (P1 = E) := by
          have h := HE1.out
          rw [if_pos hp] at h
          exact h
        have hp' : ((P1 : Int) != 0) = true := by simp; exact hp
        clear hp
        go_wp2
        go_ret
        exact ⟨ret_int (by rw [HE2.out]), HG3.out⟩
end Go.Proofs.YtndpjdmfkhjiiaaGreatDoor.Rl
