/- 2 texts in one. -/
import Derived.Test.YtndpjdmfkhjiiaaGreatDoorProg
import Derived.Test.YtndpjdmfkhjiiaaGreatDoorK97fdc06
import Derived.Test.YtndpjdmfkhjiiaaGreatDoorKbff346a
import Derived.Test.YtndpjdmfkhjiiaaGreatDoorK395e834
import Derived.BigQuiet
import Derived.WalkKit
set_option linter.unusedVariables false
set_option linter.unusedSimpArgs false
namespace Go.Proofs.YtndpjdmfkhjiiaaGreatDoor
open Go.RowKit
attribute [local go_sem] bs_size bs_toList bs_append bs_get bs_extract
/-- What a way marks, from its end on. -/
def markAll (mk : List Int) : Evs → List Int
  | [] => mk
  | (sl, p) :: l => markPut (markAll mk l) sl p
theorem markPut_length (mk sl p) : (markPut mk sl p).length = mk.length := by unfold markPut; split <;> simp
theorem markAll_length (mk) : ∀ l, (markAll mk l).length = mk.length
  | [] => rfl
  | (sl, p) :: l => by rw [markAll, markPut_length, markAll_length mk l]
/-- Each step that is laid goes on at one that is. -/
def soundAt (S : List St) (g n : Nat) : St → Prop
  | .take _ => n + 1 < S.length
  | .mark sl => n + 1 < S.length ∧ sl < 2 * g
  | .fork ws => ws.length ≤ 100000 ∧ ∀ w ∈ ws, w < S.length
  | .fin => True
def sound (S : List St) (g : Nat) : Prop := ∀ n st, S[n]? = some st → soundAt S g n st
/-- What was tried is not known to lead on: it is being looked at, or leads to nothing. -/
def spent (S : List St) (t : List UInt8) (tr : List Bool) (f : Nat) : Prop :=
  ∀ n p, p ≤ t.length → tr[n * (t.length + 1) + p]? = some true → den (kinds S) t f n p = none ∨ ∃ f', den (kinds S) t f' n p = some none
/-- Only what leads to nothing was tried besides. -/
def onlyVain (S : List St) (t : List UInt8) (tr tr' : List Bool) : Prop :=
  ∀ n p, p ≤ t.length → tr'[n * (t.length + 1) + p]? = some true → tr[n * (t.length + 1) + p]? = some true ∨ ∃ f', den (kinds S) t f' n p = some none
/-- What a walk from a step does. -/
def fromPost (S : List St) (t : List UInt8) (tb mb : Nat) (tr : List Bool) (mk : List Int) (x : Option Evs) (w : World) (e : Ending) (w' : World) : Prop :=
  e = .returned (.bool x.isSome) ∧ Kept2 tb mb w w' ∧ ∃ tr', tr'.length = tr.length ∧ triedAt w' tb tr' ∧
    (x = none → marksAt w' mb mk ∧ onlyVain S t tr tr') ∧ (∀ l, x = some l → marksAt w' mb (markAll mk l))
theorem idx_inj {L n p n' p' : Nat} (h : n * (L + 1) + p = n' * (L + 1) + p') (hp : p ≤ L) (hp' : p' ≤ L) : n = n' ∧ p = p' := by
  have h1 : (n * (L + 1) + p) / (L + 1) = n := by rw [Nat.mul_comm, Nat.mul_add_div (by omega), Nat.div_eq_of_lt (by omega)]; rfl
  have h2 : (n' * (L + 1) + p') / (L + 1) = n' := by rw [Nat.mul_comm, Nat.mul_add_div (by omega), Nat.div_eq_of_lt (by omega)]; rfl
  have e : n = n' := by rw [← h1, ← h2, h]
  subst e
  exact ⟨rfl, by omega⟩
theorem idx_lt {L n p s : Nat} (hn : n < s) (hp : p ≤ L) : n * (L + 1) + p < s * (L + 1) := by
  have : (n + 1) * (L + 1) ≤ s * (L + 1) := Nat.mul_le_mul_right _ hn
  have e : (n + 1) * (L + 1) = n * (L + 1) + (L + 1) := by rw [Nat.add_mul, Nat.one_mul]
  omega
theorem spent.put {S : List St} {t : List UInt8} {tr : List Bool} {f n p : Nat} (h : spent S t tr (f + 1)) (hp : p ≤ t.length) (hd : den (kinds S) t f n p = none) : spent S t (tr.set (n * (t.length + 1) + p) true) f := by
  intro n' p' hp' hk
  by_cases e : n * (t.length + 1) + p = n' * (t.length + 1) + p'
  · obtain ⟨rfl, rfl⟩ := idx_inj e hp hp'
    exact .inl hd
  · rw [List.getElem?_set_ne e] at hk
    rcases h n' p' hp' hk with h | h
    · left
      cases hc : den (kinds S) t f n' p' with
      | none => rfl
      | some y => rw [den_succ _ _ _ _ _ _ hc] at h; cases h
    · exact .inr h
theorem onlyVain.put {S : List St} {t : List UInt8} {tr tr' : List Bool} {f n p : Nat} (h : onlyVain S t (tr.set (n * (t.length + 1) + p) true) tr') (hp : p ≤ t.length) (hd : den (kinds S) t f n p = some none) : onlyVain S t tr tr' := by
  intro n' p' hp' hk
  rcases h n' p' hp' hk with h | h
  · by_cases e : n * (t.length + 1) + p = n' * (t.length + 1) + p'
    · obtain ⟨rfl, rfl⟩ := idx_inj e hp hp'
      exact .inr ⟨f, hd⟩
    · rw [List.getElem?_set_ne e] at h
      exact .inl h
  · exact .inr h
theorem onlyVain.refl (S : List St) (t : List UInt8) (tr : List Bool) : onlyVain S t tr tr := fun n p _ h => .inl h
theorem onlyVain.trans {S : List St} {t : List UInt8} {a b c : List Bool} (h : onlyVain S t a b) (k : onlyVain S t b c) : onlyVain S t a c := by
  intro n p hp hc
  rcases k n p hp hc with k | k
  · exact h n p hp k
  · exact .inr k
theorem spent.vain {S : List St} {t : List UInt8} {tr tr' : List Bool} {f : Nat} (h : spent S t tr f) (k : onlyVain S t tr tr') : spent S t tr' f := by
  intro n p hp hc
  rcases k n p hp hc with k | k
  · exact h n p hp k
  · exact .inr k
theorem drop_next {ws : List Nat} {i : Nat} (h : i < ws.length) : ws.drop i = ws[i] :: ws.drop (i + 1) := List.drop_eq_getElem_cons h
theorem Tryz.mixed2 : Tryz.prog.follows .mixedOrders = true := by kernel_rfl
/-- Whether a guarded operation is wanted. -/
theorem wanted_of {ops : Array Oper} {a : Act} {o : Oper} {g : Nat} {b bb : Bool} (hg : o.guard = some (g, bb)) (hs : slotOf ops a g = .bool b) : Region.wanted o (yielded ops a.tmps) = (b == bb) := by
  unfold slotOf at hs
  cases hd : dstOf ops g with
  | none => rw [hd] at hs; simp [undef] at hs
  | some d =>
    rw [hd] at hs
    simp only at hs
    have : a.tmps[d]? = some (.bool b) := by
      cases h : a.tmps[d]? with
      | none => simp [Array.getD_eq_getD_getElem?, h, undef] at hs
      | some v => simp [Array.getD_eq_getD_getElem?, h] at hs; rw [hs]
    have hy : yielded ops a.tmps g = some b := by
      have hd' : (ops[g]?).bind (·.dst) = some d := hd
      simp [yielded, hd', this]
    simp [Region.wanted, hg, hy]
theorem wanted_yes {ops : Array Oper} {a : Act} {o : Oper} {i g : Nat} (ho : ops[i]? = some o) (hg : (ops[i]?).bind (·.guard) = some (g, true)) (hs : slotOf ops a g = .bool true) : Region.wanted o (yielded ops a.tmps) = true :=
  wanted_of (by rw [ho] at hg; exact hg) hs
theorem wanted_no {ops : Array Oper} {a : Act} {o : Oper} {i g : Nat} (ho : ops[i]? = some o) (hg : (ops[i]?).bind (·.guard) = some (g, true)) (hs : slotOf ops a g = .bool false) : Region.wanted o (yielded ops a.tmps) = false :=
  wanted_of (by rw [ho] at hg; exact hg) hs
/-- What holds while a step takes a byte: ahead of the walk from the next step, and behind it. -/
def takeJ (S : List St) (t : List UInt8) (tb mb : Nat) (tr : List Bool) (mk : List Int) (x : Option Evs) (w1 : World) (b : Bool) (w' : World) : Prop :=
  Kept2 tb mb w1 w' ∧ (b = false → triedAt w' tb tr ∧ marksAt w' mb mk) ∧
    (b = true → ∃ tr', tr'.length = tr.length ∧ triedAt w' tb tr' ∧ (x = none → marksAt w' mb mk ∧ onlyVain S t tr tr') ∧ (∀ l, x = some l → marksAt w' mb (markAll mk l)))
theorem takeJ.grow {S t tb mb tr mk x w1 b w' w''} (h : takeJ S t tb mb tr mk x w1 b w') (g : Grow w' w'') : takeJ S t tb mb tr mk x w1 b w'' := by
  obtain ⟨h1, h2, h3⟩ := h
  refine ⟨h1.trans (.grow g), fun e => ⟨(h2 e).1.keep g, (h2 e).2.keep g⟩, fun e => ?_⟩
  obtain ⟨tr', a, b, c, d⟩ := h3 e
  exact ⟨tr', a, b.keep g, fun e => ⟨(c e).1.keep g, (c e).2⟩, fun l e => (d l e).keep g⟩
set_option maxRecDepth 20000 in
set_option maxHeartbeats 4000000 in
theorem from_any (S : List St) (t : List UInt8) (wb sb tb mb g : Nat) (hS : S.length ≤ 100000) (hL : t.length ≤ 2000) (hsnd : sound S g) :
    ∀ f n p x w tr mk, walkOf w wb sb tb mb S t tr.length mk.length → triedAt w tb tr → marksAt w mb mk → tr.length = S.length * (t.length + 1) → mk.length = 2 * g →
      den (kinds S) t f n p = some x → n < S.length → p ≤ t.length → spent S t tr f →
      Calls Tryz.prog 58 #[.pointer (some ⟨wb, 0, none⟩), .int .i64 n, .int .i64 p] w fun e w' => fromPost S t tb mb tr mk x w e w' := by
  intro f
  induction f with
  | zero => intro n p x w tr mk _ _ _ _ _ h; cases h
  | succ f ih =>
    intro n p x w tr mk hw ht hm hlt hlm hd hn hp hsp
    cases hdf : den (kinds S) t f n p with
    | some y =>
      obtain rfl := den_det hdf hd
      refine ih n p y w tr mk hw ht hm hlt hlm hdf hn hp (fun n' p' hp' hk => ?_)
      rcases hsp n' p' hp' hk with h | h
      · left
        cases hc : den (kinds S) t f n' p' with
        | none => rfl
        | some z => rw [den_succ _ _ _ _ _ _ hc] at h; cases h
      · exact .inr h
    | none =>
      obtain ⟨st, hst⟩ : ∃ st, S[n]? = some st := ⟨_, List.getElem?_eq_getElem hn⟩
      have hkind : kinds S n = kindAt n st := by simp [kinds, hst]
      have hidx := idx_lt hn hp
      rw [← hlt] at hidx
      obtain ⟨M, hM⟩ : ∃ M, n * (t.length + 1) = M := ⟨_, rfl⟩
      have hMi : (n : Int) * ((t.length : Int) + 1) = (M : Int) := by rw [← hM]; simp
      have hMle : M ≤ 200100000 := by
        have h1 : n * (t.length + 1) ≤ 100000 * 2001 := Nat.mul_le_mul (by omega) (by omega)
        omega
      rw [hM] at hidx
      obtain ⟨sc, tc, mc, ma, hwb, hma, hsteps, hne1, hne2, hne3, hne4, hne5⟩ := id hw
      obtain ⟨c0, c1, c2, c3⟩ := four_cells hwb
      have hget : tr[M + p]? = some tr[M + p] := List.getElem?_eq_getElem hidx
      have ct := ht.cell hget
      have ft := not_frozen (k := M + p) ht
      have W := hide hw
      have TR := hide ht
      have MK := hide hm
      have IH := hide ih
      have D := hide hd
      have DF := hide hdf
      have SP := hide hsp
      have SN := hide hsnd
      have ST := hide hst
      have KD := hide hkind
      have HM := hide hM
      have LT := hide hlt
      have LM := hide hlm
      have GT := hide hget
      have SS := hide hsteps
      clear hw ht hm ih hd hdf hsp hsnd hst hkind hM hlt hlm hget hwb hsteps hma
      cases hb : tr[M + p] with
      | true =>
        rw [hb] at ct GT
        have hx : x = none := by
          have h := SP.out n p hp (by rw [HM.out]; exact GT.out)
          rcases h with h | ⟨f', h⟩
          · rw [D.out] at h; cases h
          · exact den_det D.out h
        subst hx
        clear hb
        go_enter Tryz.func58, Tryz.ntmps58
        go_wp2
        go_ret
        exact ⟨rfl, .refl _ _ _, tr, rfl, TR.out, fun _ => ⟨MK.out, fun n p _ h => .inl h⟩, fun l h => by cases h⟩
      | false =>
        rw [hb] at ct GT
        clear hb
        -- behind the store
        obtain ⟨w1, hw1⟩ : ∃ w1, w.setCell ⟨tb, M + p, none⟩ (.bool true) = w1 := ⟨_, rfl⟩
        have K1 : Hid (Kept2 tb mb w w1) := by rw [← hw1]; exact .setT _ _
        have TR1 : Hid (triedAt w1 tb (tr.set (M + p) true)) := by rw [← hw1]; exact TR.out.set _ _
        have MK1 : Hid (marksAt w1 mb mk) := by rw [← hw1]; exact (set_apart _ (fun e => hne5 e.symm)).trans MK.out
        have W1 : Hid (walkOf w1 wb sb tb mb S t (tr.set (M + p) true).length mk.length) := by rw [List.length_set]; exact W.out.keep K1.out
        have SP1 : Hid (spent S t (tr.set (M + p) true) f) := by rw [← HM.out]; exact SP.out.put hp DF.out
        have V1 : Hid (∀ tr', den (kinds S) t (f + 1) n p = some none → onlyVain S t (tr.set (M + p) true) tr' → onlyVain S t tr tr') := fun tr' h k => by
          rw [← HM.out] at k
          exact k.put hp h
        have d0 := K1.out.cell c0 hne1 hne2
        have d1 := K1.out.cell c1 hne1 hne2
        have d2 := K1.out.cell c2 hne1 hne2
        have d3 := K1.out.cell c3 hne1 hne2
        obtain ⟨a, b, c, d, sl0, wv, e0, e1, e2, e3, e4, e5, e6, hst⟩ := SS.out n st ST.out
        have SA := SN.out n st ST.out
        have hd := D.out
        rw [den, KD.out] at hd
        cases st with
        | fin =>
          simp only [kindAt, Option.some.injEq] at hd
          simp only [kindNo] at e0
          have f0 := K1.out.cell e0 hne3 hne4
          have X := hide hd
          clear hd e1 e2 e3 e4 e5 e6 hst SA
          go_enter Tryz.func58, Tryz.ntmps58
          go_wp2
          go_ret
          refine ⟨?_, K1.out, _, by simp, TR1.out, fun hx => ⟨MK1.out, V1.out _ (by rw [D.out, hx]) (.refl _ _ _)⟩, fun l hl => ?_⟩
          · refine ret_bool ?_
            rw [← X.out]
            by_cases e : p = t.length
            · simp [e]
            · simp [e]; omega
          · have hl := X.out.trans hl
            split at hl
            · cases hl; exact MK1.out
            · cases hl
        | take s =>
          simp only [kindAt] at hd
          simp only [kindNo] at e0
          have f0 := K1.out.cell e0 hne3 hne4
          have f1 := K1.out.cell e1 hne3 hne4
          have f2 := K1.out.cell e2 hne3 hne4
          have f3 := K1.out.cell e3 hne3 hne4
          have f4 := K1.out.cell e4 hne3 hne4
          have HW4 : Hid (wordsIs [a, b, c, d] s) := hst
          have SA' : n + 1 < S.length := SA
          clear e1 e2 e3 e4 e5 e6
          by_cases hpl : p < t.length
          · rw [hits_get hpl] at hd
            cases hs : s t[p] with
            | true =>
              rw [hs, if_pos rfl] at hd
              have HD := hide hd
              clear hd
              go_enter Tryz.func58, Tryz.ntmps58
              go_wp2
              refine wp_region_state 28 112 Tryz.mixed2 rfl (by decide +kernel) (fun L vals w' => takeJ S t tb mb (tr.set (M + p) true) mk x w1 (L 26) w')
                (fun L vals h => ?_)
                      (fun i v => match i with
                        | 0 => v = .int .i64 (p : Nat)
                        | 1 => v = .pointer (some ⟨wb, 0, none⟩)
                        | 2 => v = .pointer (some ⟨wb, 0, none⟩)
                        | 3 => v = .pointer (some ⟨wb, 1, none⟩)
                        | 4 => v = .string (bs t)
                        | 5 => v = .int .i64 (t.length : Nat)
                        | 6 => v = .bool true
                        | 7 => v = .bool true
                        | 8 => v = .pointer (some ⟨sb, n * 7, none⟩)
                        | 9 => v = .pointer (some ⟨sb, n * 7, none⟩)
                        | 10 => v = .pointer (some ⟨sb, n * 7 + 1, none⟩)
                        | 11 => v = setV [a, b, c, d]
                        | 12 => v = .pointer (some ⟨wb, 0, none⟩)
                        | 13 => v = .pointer (some ⟨wb, 0, none⟩)
                        | 14 => v = .pointer (some ⟨wb, 1, none⟩)
                        | 15 => v = .string (bs t)
                        | 16 => v = .int .i64 (p : Nat)
                        | 17 => v = .int .u8 (t[p].toNat : Nat)
                        | 18 => v = .bool true
                        | 19 => v = .bool true
                        | 20 => v = .bool true
                        | 21 => v = .pointer (some ⟨wb, 0, none⟩)
                        | 22 => v = .int .i64 (n : Nat)
                        | 23 => v = .int .i64 ((n : Int) + 1)
                        | 24 => v = .int .i64 (p : Nat)
                        | 25 => v = .int .i64 ((p : Int) + 1)
                        | 26 => v = .bool x.isSome
                        | _ => v = .bool x.isSome)
                (fun _ _ => False) (fun _ _ _ _ h => h.elim) (fun i hi o ho a2 w2 L vals hLi hLc hLe hJ hoff hval hdep => ?_) (fun vals w2 L hL hJ hvals => ?_)
              · simp only [h]
                exact ⟨(.drew _), fun _ => ⟨TR1.out, MK1.out⟩, fun h => (by cases h)⟩
              · have k1 := hJ.1.cell d1 hne1 hne2
                have q1 := hJ.1.cell f1 hne3 hne4
                have q2 := hJ.1.cell f2 hne3 hne4
                have q3 := hJ.1.cell f3 hne3 hne4
                have q4 := hJ.1.cell f4 hne3 hne4
                match i, hi with
                | 0, _ =>
                  obtain rfl := Option.some.inj ho
                  have o2 := hoff 2 (by decide +kernel)
                  simp at o2
                  simp [opYields, go_sem, o2]
                  exact hJ
                | 1, _ =>
                  obtain rfl := Option.some.inj ho
                  have o0 := hoff 0 (by decide +kernel)
                  simp at o0
                  simp [opYields, go_sem, o0]
                  exact hJ
                | 2, _ =>
                  obtain rfl := Option.some.inj ho
                  have d1 := hdep 1 (by decide +kernel)
                  simp [slotOf, dstOf] at d1
                  simp [opYields, go_sem, d1]
                  exact hJ
                | 3, _ =>
                  obtain rfl := Option.some.inj ho
                  have d2 := hdep 2 (by decide +kernel)
                  simp [slotOf, dstOf] at d2
                  simp [opYields, go_sem, d2]
                  exact hJ
                | 4, _ =>
                  obtain rfl := Option.some.inj ho
                  have d3 := hdep 3 (by decide +kernel)
                  simp [slotOf, dstOf] at d3
                  simp [opYields, go_sem, d3, k1]
                  exact hJ
                | 5, _ =>
                  obtain rfl := Option.some.inj ho
                  have d4 := hdep 4 (by decide +kernel)
                  simp [slotOf, dstOf] at d4
                  simp [opYields, go_sem, d4]
                  exact hJ
                | 6, _ =>
                  obtain rfl := Option.some.inj ho
                  have d0 := hdep 0 (by decide +kernel)
                  simp [slotOf, dstOf] at d0
                  have d5 := hdep 5 (by decide +kernel)
                  simp [slotOf, dstOf] at d5
                  simp [opYields, go_sem, d0, d5, hpl]
                  exact hJ
                | 7, _ =>
                  obtain rfl := Option.some.inj ho
                  have d6 := hdep 6 (by decide +kernel)
                  simp [slotOf, dstOf] at d6
                  simp [opYields, go_sem, d6]
                  exact hJ
                | 8, _ =>
                  have hwt := wanted_yes ho (g := 7) (by rfl) (hdep 7 (by decide +kernel))
                  unfold opYields
                  rw [if_pos hwt]
                  obtain rfl := Option.some.inj ho
                  have o8 := hoff 8 (by decide +kernel)
                  simp at o8
                  simp [go_sem, o8]
                  exact hJ
                | 9, _ =>
                  have hwt := wanted_yes ho (g := 7) (by rfl) (hdep 7 (by decide +kernel))
                  unfold opYields
                  rw [if_pos hwt]
                  obtain rfl := Option.some.inj ho
                  have d8 := hdep 8 (by decide +kernel)
                  simp [slotOf, dstOf] at d8
                  simp [go_sem, d8]
                  exact hJ
                | 10, _ =>
                  have hwt := wanted_yes ho (g := 7) (by rfl) (hdep 7 (by decide +kernel))
                  unfold opYields
                  rw [if_pos hwt]
                  obtain rfl := Option.some.inj ho
                  have d9 := hdep 9 (by decide +kernel)
                  simp [slotOf, dstOf] at d9
                  simp [go_sem, d9]
                  exact hJ
                | 11, _ =>
                  have hwt := wanted_yes ho (g := 7) (by rfl) (hdep 7 (by decide +kernel))
                  unfold opYields
                  rw [if_pos hwt]
                  obtain rfl := Option.some.inj ho
                  have d10 := hdep 10 (by decide +kernel)
                  simp [slotOf, dstOf] at d10
                  simp [go_sem, d10, q1, q2, q3, q4, setV]
                  exact hJ
                | 12, _ =>
                  have hwt := wanted_yes ho (g := 7) (by rfl) (hdep 7 (by decide +kernel))
                  unfold opYields
                  rw [if_pos hwt]
                  obtain rfl := Option.some.inj ho
                  have o0 := hoff 0 (by decide +kernel)
                  simp at o0
                  simp [go_sem, o0]
                  exact hJ
                | 13, _ =>
                  have hwt := wanted_yes ho (g := 7) (by rfl) (hdep 7 (by decide +kernel))
                  unfold opYields
                  rw [if_pos hwt]
                  obtain rfl := Option.some.inj ho
                  have d12 := hdep 12 (by decide +kernel)
                  simp [slotOf, dstOf] at d12
                  simp [go_sem, d12]
                  exact hJ
                | 14, _ =>
                  have hwt := wanted_yes ho (g := 7) (by rfl) (hdep 7 (by decide +kernel))
                  unfold opYields
                  rw [if_pos hwt]
                  obtain rfl := Option.some.inj ho
                  have d13 := hdep 13 (by decide +kernel)
                  simp [slotOf, dstOf] at d13
                  simp [go_sem, d13]
                  exact hJ
                | 15, _ =>
                  have hwt := wanted_yes ho (g := 7) (by rfl) (hdep 7 (by decide +kernel))
                  unfold opYields
                  rw [if_pos hwt]
                  obtain rfl := Option.some.inj ho
                  have d14 := hdep 14 (by decide +kernel)
                  simp [slotOf, dstOf] at d14
                  simp [go_sem, d14, k1]
                  exact hJ
                | 16, _ =>
                  have hwt := wanted_yes ho (g := 7) (by rfl) (hdep 7 (by decide +kernel))
                  unfold opYields
                  rw [if_pos hwt]
                  obtain rfl := Option.some.inj ho
                  have o2 := hoff 2 (by decide +kernel)
                  simp at o2
                  simp [go_sem, o2]
                  exact hJ
                | 17, _ =>
                  have hwt := wanted_yes ho (g := 7) (by rfl) (hdep 7 (by decide +kernel))
                  unfold opYields
                  rw [if_pos hwt]
                  obtain rfl := Option.some.inj ho
                  have d15 := hdep 15 (by decide +kernel)
                  simp [slotOf, dstOf] at d15
                  have d16 := hdep 16 (by decide +kernel)
                  simp [slotOf, dstOf] at d16
                  simp [go_sem, d15, d16, hpl]
                  exact hJ
                | 18, _ =>
                  have hwt := wanted_yes ho (g := 7) (by rfl) (hdep 7 (by decide +kernel))
                  unfold opYields
                  rw [if_pos hwt]
                  obtain rfl := Option.some.inj ho
                  have d11 := hdep 11 (by decide +kernel)
                  simp [slotOf, dstOf] at d11
                  have d17 := hdep 17 (by decide +kernel)
                  simp [slotOf, dstOf] at d17
                  simp [go_sem, d11, d17]
                  refine (has_any [a, b, c, d] s t[p] w2 HW4.out).mono ?_
                  rintro e w3 ⟨rfl, hg3⟩
                  exact ⟨hJ.grow hg3, by rw [hs]⟩
                | 19, _ =>
                  obtain rfl := Option.some.inj ho
                  have d7 := hdep 7 (by decide +kernel)
                  simp [slotOf, dstOf] at d7
                  have d18 := hdep 18 (by decide +kernel)
                  simp [slotOf, dstOf] at d18
                  simp [opYields, go_sem, d7, d18]
                  exact hJ
                | 20, _ =>
                  obtain rfl := Option.some.inj ho
                  have d19 := hdep 19 (by decide +kernel)
                  simp [slotOf, dstOf] at d19
                  simp [opYields, go_sem, d19]
                  exact hJ
                | 21, _ =>
                  have hwt := wanted_yes ho (g := 20) (by rfl) (hdep 20 (by decide +kernel))
                  unfold opYields
                  rw [if_pos hwt]
                  obtain rfl := Option.some.inj ho
                  have o0 := hoff 0 (by decide +kernel)
                  simp at o0
                  simp [go_sem, o0]
                  exact hJ
                | 22, _ =>
                  have hwt := wanted_yes ho (g := 20) (by rfl) (hdep 20 (by decide +kernel))
                  unfold opYields
                  rw [if_pos hwt]
                  obtain rfl := Option.some.inj ho
                  have o1 := hoff 1 (by decide +kernel)
                  simp at o1
                  simp [go_sem, o1]
                  exact hJ
                | 23, _ =>
                  have hwt := wanted_yes ho (g := 20) (by rfl) (hdep 20 (by decide +kernel))
                  unfold opYields
                  rw [if_pos hwt]
                  obtain rfl := Option.some.inj ho
                  have d22 := hdep 22 (by decide +kernel)
                  simp [slotOf, dstOf] at d22
                  simp [go_sem, d22]
                  exact ⟨hJ, wrap_i64_small _ (by omega) (by omega)⟩
                | 24, _ =>
                  have hwt := wanted_yes ho (g := 20) (by rfl) (hdep 20 (by decide +kernel))
                  unfold opYields
                  rw [if_pos hwt]
                  obtain rfl := Option.some.inj ho
                  have o2 := hoff 2 (by decide +kernel)
                  simp at o2
                  simp [go_sem, o2]
                  exact hJ
                | 25, _ =>
                  have hwt := wanted_yes ho (g := 20) (by rfl) (hdep 20 (by decide +kernel))
                  unfold opYields
                  rw [if_pos hwt]
                  obtain rfl := Option.some.inj ho
                  have d24 := hdep 24 (by decide +kernel)
                  simp [slotOf, dstOf] at d24
                  simp [go_sem, d24]
                  exact ⟨hJ, wrap_i64_small _ (by omega) (by omega)⟩
                | 26, _ =>
                  have hwt := wanted_yes ho (g := 20) (by rfl) (hdep 20 (by decide +kernel))
                  unfold opYields
                  rw [if_pos hwt]
                  obtain rfl := Option.some.inj ho
                  have d21 := hdep 21 (by decide +kernel)
                  simp [slotOf, dstOf] at d21
                  have d23 := hdep 23 (by decide +kernel)
                  simp [slotOf, dstOf] at d23
                  have d25 := hdep 25 (by decide +kernel)
                  simp [slotOf, dstOf] at d25
                  simp [go_sem, d21, d23, d25]
                  rw [hLi] at hJ
                  obtain ⟨hj1, hj2, _⟩ := hJ
                  obtain ⟨hj3, hj4⟩ := hj2 rfl
                  refine (IH.out (n + 1) (p + 1) x w2 _ mk (W1.out.keep hj1) hj3 hj4 (by rw [List.length_set]; exact LT.out) LM.out HD.out SA' hpl SP1.out).mono ?_
                  rintro e w3 ⟨rfl, hk3, hrest⟩
                  exact ⟨⟨hj1.trans hk3, fun h => (by simp at h), fun _ => hrest⟩, rfl⟩
                | 27, _ =>
                  obtain rfl := Option.some.inj ho
                  have d20 := hdep 20 (by decide +kernel)
                  simp [slotOf, dstOf] at d20
                  have d26 := hdep 26 (by decide +kernel)
                  simp [slotOf, dstOf] at d26
                  simp [opYields, go_sem, d20, d26]
                  exact hJ
                | k + 28, h => exact absurd h (by omega)
              · have h26 := hL 26 (by omega)
                have v27 := hvals 27 (by omega)
                rw [h26] at hJ
                simp only at v27
                clear hvals
                simp [over, dstOf, Act.put, v27]
                go_wp2
                go_ret
                obtain ⟨hj1, _, hj3⟩ := hJ
                obtain ⟨tr', ha, hb, hc, hd⟩ := hj3 rfl
                exact ⟨rfl, K1.out.trans hj1, tr', by simpa using ha, hb, fun h => ⟨(hc h).1, V1.out _ (by rw [D.out, h]) (hc h).2⟩, hd⟩
            | false =>
              rw [hs, if_neg (by simp)] at hd
              obtain rfl : x = none := (Option.some.inj hd).symm
              clear hd
              go_enter Tryz.func58, Tryz.ntmps58
              go_wp2
              refine wp_region_state 28 112 Tryz.mixed2 rfl (by decide +kernel) (fun L vals w' => takeJ S t tb mb (tr.set (M + p) true) mk none w1 false w')
                (fun L vals h => ?_)
                      (fun i v => match i with
                        | 0 => v = .int .i64 (p : Nat)
                        | 1 => v = .pointer (some ⟨wb, 0, none⟩)
                        | 2 => v = .pointer (some ⟨wb, 0, none⟩)
                        | 3 => v = .pointer (some ⟨wb, 1, none⟩)
                        | 4 => v = .string (bs t)
                        | 5 => v = .int .i64 (t.length : Nat)
                        | 6 => v = .bool true
                        | 7 => v = .bool true
                        | 8 => v = .pointer (some ⟨sb, n * 7, none⟩)
                        | 9 => v = .pointer (some ⟨sb, n * 7, none⟩)
                        | 10 => v = .pointer (some ⟨sb, n * 7 + 1, none⟩)
                        | 11 => v = setV [a, b, c, d]
                        | 12 => v = .pointer (some ⟨wb, 0, none⟩)
                        | 13 => v = .pointer (some ⟨wb, 0, none⟩)
                        | 14 => v = .pointer (some ⟨wb, 1, none⟩)
                        | 15 => v = .string (bs t)
                        | 16 => v = .int .i64 (p : Nat)
                        | 17 => v = .int .u8 (t[p].toNat : Nat)
                        | 18 => v = .bool false
                        | 19 => v = .bool false
                        | 20 => v = .bool false
                        | 27 => v = .bool false
                        | _ => True)
                (fun _ _ => False) (fun _ _ _ _ h => h.elim) (fun i hi o ho a2 w2 L vals hLi hLc hLe hJ hoff hval hdep => ?_) (fun vals w2 L hL hJ hvals => ?_)
              · skip
                exact ⟨(.drew _), fun _ => ⟨TR1.out, MK1.out⟩, fun h => (by cases h)⟩
              · have k1 := hJ.1.cell d1 hne1 hne2
                have q1 := hJ.1.cell f1 hne3 hne4
                have q2 := hJ.1.cell f2 hne3 hne4
                have q3 := hJ.1.cell f3 hne3 hne4
                have q4 := hJ.1.cell f4 hne3 hne4
                match i, hi with
                | 0, _ =>
                  obtain rfl := Option.some.inj ho
                  have o2 := hoff 2 (by decide +kernel)
                  simp at o2
                  simp [opYields, go_sem, o2]
                  exact hJ
                | 1, _ =>
                  obtain rfl := Option.some.inj ho
                  have o0 := hoff 0 (by decide +kernel)
                  simp at o0
                  simp [opYields, go_sem, o0]
                  exact hJ
                | 2, _ =>
                  obtain rfl := Option.some.inj ho
                  have d1 := hdep 1 (by decide +kernel)
                  simp [slotOf, dstOf] at d1
                  simp [opYields, go_sem, d1]
                  exact hJ
                | 3, _ =>
                  obtain rfl := Option.some.inj ho
                  have d2 := hdep 2 (by decide +kernel)
                  simp [slotOf, dstOf] at d2
                  simp [opYields, go_sem, d2]
                  exact hJ
                | 4, _ =>
                  obtain rfl := Option.some.inj ho
                  have d3 := hdep 3 (by decide +kernel)
                  simp [slotOf, dstOf] at d3
                  simp [opYields, go_sem, d3, k1]
                  exact hJ
                | 5, _ =>
                  obtain rfl := Option.some.inj ho
                  have d4 := hdep 4 (by decide +kernel)
                  simp [slotOf, dstOf] at d4
                  simp [opYields, go_sem, d4]
                  exact hJ
                | 6, _ =>
                  obtain rfl := Option.some.inj ho
                  have d0 := hdep 0 (by decide +kernel)
                  simp [slotOf, dstOf] at d0
                  have d5 := hdep 5 (by decide +kernel)
                  simp [slotOf, dstOf] at d5
                  simp [opYields, go_sem, d0, d5, hpl]
                  exact hJ
                | 7, _ =>
                  obtain rfl := Option.some.inj ho
                  have d6 := hdep 6 (by decide +kernel)
                  simp [slotOf, dstOf] at d6
                  simp [opYields, go_sem, d6]
                  exact hJ
                | 8, _ =>
                  have hwt := wanted_yes ho (g := 7) (by rfl) (hdep 7 (by decide +kernel))
                  unfold opYields
                  rw [if_pos hwt]
                  obtain rfl := Option.some.inj ho
                  have o8 := hoff 8 (by decide +kernel)
                  simp at o8
                  simp [go_sem, o8]
                  exact hJ
                | 9, _ =>
                  have hwt := wanted_yes ho (g := 7) (by rfl) (hdep 7 (by decide +kernel))
                  unfold opYields
                  rw [if_pos hwt]
                  obtain rfl := Option.some.inj ho
                  have d8 := hdep 8 (by decide +kernel)
                  simp [slotOf, dstOf] at d8
                  simp [go_sem, d8]
                  exact hJ
                | 10, _ =>
                  have hwt := wanted_yes ho (g := 7) (by rfl) (hdep 7 (by decide +kernel))
                  unfold opYields
                  rw [if_pos hwt]
                  obtain rfl := Option.some.inj ho
                  have d9 := hdep 9 (by decide +kernel)
                  simp [slotOf, dstOf] at d9
                  simp [go_sem, d9]
                  exact hJ
                | 11, _ =>
                  have hwt := wanted_yes ho (g := 7) (by rfl) (hdep 7 (by decide +kernel))
                  unfold opYields
                  rw [if_pos hwt]
                  obtain rfl := Option.some.inj ho
                  have d10 := hdep 10 (by decide +kernel)
                  simp [slotOf, dstOf] at d10
                  simp [go_sem, d10, q1, q2, q3, q4, setV]
                  exact hJ
                | 12, _ =>
                  have hwt := wanted_yes ho (g := 7) (by rfl) (hdep 7 (by decide +kernel))
                  unfold opYields
                  rw [if_pos hwt]
                  obtain rfl := Option.some.inj ho
                  have o0 := hoff 0 (by decide +kernel)
                  simp at o0
                  simp [go_sem, o0]
                  exact hJ
                | 13, _ =>
                  have hwt := wanted_yes ho (g := 7) (by rfl) (hdep 7 (by decide +kernel))
                  unfold opYields
                  rw [if_pos hwt]
                  obtain rfl := Option.some.inj ho
                  have d12 := hdep 12 (by decide +kernel)
                  simp [slotOf, dstOf] at d12
                  simp [go_sem, d12]
                  exact hJ
                | 14, _ =>
                  have hwt := wanted_yes ho (g := 7) (by rfl) (hdep 7 (by decide +kernel))
                  unfold opYields
                  rw [if_pos hwt]
                  obtain rfl := Option.some.inj ho
                  have d13 := hdep 13 (by decide +kernel)
                  simp [slotOf, dstOf] at d13
                  simp [go_sem, d13]
                  exact hJ
                | 15, _ =>
                  have hwt := wanted_yes ho (g := 7) (by rfl) (hdep 7 (by decide +kernel))
                  unfold opYields
                  rw [if_pos hwt]
                  obtain rfl := Option.some.inj ho
                  have d14 := hdep 14 (by decide +kernel)
                  simp [slotOf, dstOf] at d14
                  simp [go_sem, d14, k1]
                  exact hJ
                | 16, _ =>
                  have hwt := wanted_yes ho (g := 7) (by rfl) (hdep 7 (by decide +kernel))
                  unfold opYields
                  rw [if_pos hwt]
                  obtain rfl := Option.some.inj ho
                  have o2 := hoff 2 (by decide +kernel)
                  simp at o2
                  simp [go_sem, o2]
                  exact hJ
                | 17, _ =>
                  have hwt := wanted_yes ho (g := 7) (by rfl) (hdep 7 (by decide +kernel))
                  unfold opYields
                  rw [if_pos hwt]
                  obtain rfl := Option.some.inj ho
                  have d15 := hdep 15 (by decide +kernel)
                  simp [slotOf, dstOf] at d15
                  have d16 := hdep 16 (by decide +kernel)
                  simp [slotOf, dstOf] at d16
                  simp [go_sem, d15, d16, hpl]
                  exact hJ
                | 18, _ =>
                  have hwt := wanted_yes ho (g := 7) (by rfl) (hdep 7 (by decide +kernel))
                  unfold opYields
                  rw [if_pos hwt]
                  obtain rfl := Option.some.inj ho
                  have d11 := hdep 11 (by decide +kernel)
                  simp [slotOf, dstOf] at d11
                  have d17 := hdep 17 (by decide +kernel)
                  simp [slotOf, dstOf] at d17
                  simp [go_sem, d11, d17]
                  refine (has_any [a, b, c, d] s t[p] w2 HW4.out).mono ?_
                  rintro e w3 ⟨rfl, hg3⟩
                  exact ⟨hJ.grow hg3, by rw [hs]⟩
                | 19, _ =>
                  obtain rfl := Option.some.inj ho
                  have d7 := hdep 7 (by decide +kernel)
                  simp [slotOf, dstOf] at d7
                  have d18 := hdep 18 (by decide +kernel)
                  simp [slotOf, dstOf] at d18
                  simp [opYields, go_sem, d7, d18]
                  exact hJ
                | 20, _ =>
                  obtain rfl := Option.some.inj ho
                  have d19 := hdep 19 (by decide +kernel)
                  simp [slotOf, dstOf] at d19
                  simp [opYields, go_sem, d19]
                  exact hJ
                | 21, _ =>
                  have hwt := wanted_no ho (g := 20) (by rfl) (hdep 20 (by decide +kernel))
                  unfold opYields
                  rw [if_neg (by rw [hwt]; decide)]
                  exact ⟨hJ, trivial⟩
                | 22, _ =>
                  have hwt := wanted_no ho (g := 20) (by rfl) (hdep 20 (by decide +kernel))
                  unfold opYields
                  rw [if_neg (by rw [hwt]; decide)]
                  exact ⟨hJ, trivial⟩
                | 23, _ =>
                  have hwt := wanted_no ho (g := 20) (by rfl) (hdep 20 (by decide +kernel))
                  unfold opYields
                  rw [if_neg (by rw [hwt]; decide)]
                  exact ⟨hJ, trivial⟩
                | 24, _ =>
                  have hwt := wanted_no ho (g := 20) (by rfl) (hdep 20 (by decide +kernel))
                  unfold opYields
                  rw [if_neg (by rw [hwt]; decide)]
                  exact ⟨hJ, trivial⟩
                | 25, _ =>
                  have hwt := wanted_no ho (g := 20) (by rfl) (hdep 20 (by decide +kernel))
                  unfold opYields
                  rw [if_neg (by rw [hwt]; decide)]
                  exact ⟨hJ, trivial⟩
                | 26, _ =>
                  have hwt := wanted_no ho (g := 20) (by rfl) (hdep 20 (by decide +kernel))
                  unfold opYields
                  rw [if_neg (by rw [hwt]; decide)]
                  exact ⟨hJ, trivial⟩
                | 27, _ =>
                  obtain rfl := Option.some.inj ho
                  have d20 := hdep 20 (by decide +kernel)
                  simp [slotOf, dstOf] at d20
                  simp [opYields, go_sem, d20]
                  exact hJ
                | k + 28, h => exact absurd h (by omega)
              · have h26 := hL 26 (by omega)
                have v27 := hvals 27 (by omega)
                simp only at v27
                clear hvals
                simp [over, dstOf, Act.put, v27]
                go_wp2
                go_ret
                obtain ⟨hj1, hj2, _⟩ := hJ
                obtain ⟨hj3, hj4⟩ := hj2 rfl
                exact ⟨rfl, K1.out.trans hj1, _, by simp, hj3, fun _ => ⟨hj4, V1.out _ D.out (.refl _ _ _)⟩, fun l h => (by cases h)⟩
          · rw [hits_ge hpl, if_neg (by simp)] at hd
            obtain rfl : x = none := (Option.some.inj hd).symm
            have hpl' : decide ((p : Int) < (t.length : Int)) = false := by simp; omega
            clear hd
            go_enter Tryz.func58, Tryz.ntmps58
            go_wp2
            go_quiet (fail)
            go_wp2
            go_ret
            exact ⟨rfl, K1.out.drewN, _, by simp, TR1.out, fun _ => ⟨MK1.out, V1.out _ D.out (.refl _ _ _)⟩, fun l h => (by cases h)⟩
        | mark sl =>
          simp only [kindAt] at hd
          obtain ⟨y, hy, rfl⟩ := map_some hd
          obtain ⟨hn1, hsl⟩ : n + 1 < S.length ∧ sl < 2 * g := SA
          simp only [kindNo] at e0
          have f0 := K1.out.cell e0 hne3 hne4
          obtain rfl : sl0 = sl := hst
          have Y := hide hy
          clear hd hy e1 e2 e3 e4 e6
          have ec : Hid (w1.cell? ⟨sb, n * 7 + 5, none⟩ = some (.int .i64 (sl : Nat))) := hide (K1.out.cell e5 hne3 hne4)
          go_enter Tryz.func58, Tryz.ntmps58
          go_wp2_with fail
          clear hw1
          clear e5
          refine (IH.out (n + 1) p y w1 _ mk W1.out TR1.out MK1.out (by rw [List.length_set]; exact LT.out) LM.out Y.out hn1 hp SP1.out).mono ?_
          rintro e w2 ⟨rfl, hk2, tr', hl', ht', hno, hyes⟩
          cases y with
          | none =>
            obtain ⟨hm2, hv⟩ := hno rfl
            go_wp2
            go_ret
            exact ⟨rfl, K1.out.trans hk2, tr', by simpa using hl', ht', fun _ => ⟨hm2, V1.out _ D.out hv⟩, fun l h => by cases h⟩
          | some l =>
            have HY := hide (hyes l rfl)
            have ec2 := hk2.cell ec.out hne3 hne4
            clear hyes hno
            go_wp2_with fail
            refine (mark_any w2 wb sb tb mb S t tr.length (markAll mk l) sl p ?_ HY.out ?_).mono ?_
            · rw [markAll_length]; exact (W.out.keep K1.out).keep hk2
            · rw [markAll_length, LM.out]; exact hsl
            rintro e w3 ⟨rfl, hk3, htb3, hm3⟩
            go_wp2
            go_ret
            exact ⟨rfl, (K1.out.trans hk2).trans hk3, tr', by simpa using hl', htb3.trans ht', fun h => (by cases h), fun l h => (by cases h; exact hm3)⟩
        | fork ws =>
          simp only [kindAt] at hd
          simp only [kindNo] at e0
          have f0 := K1.out.cell e0 hne3 hne4
          obtain ⟨ao, cp, rfl, hws⟩ : waysAt w tb mb wv ws := hst
          have Y := hide hd
          have hwl : ws.length ≤ 100000 := SA.1
          have SA' : Hid (∀ w ∈ ws, w < S.length) := SA.2
          have WS := hide hws
          have f6 := K1.out.cell e6 hne3 hne4
          clear hd e1 e2 e3 e4 e5 hws
          go_enter Tryz.func58, Tryz.ntmps58
          go_wp2_with fail
          clear hw1
          go_loopw [96] (fun i wr => ∃ k : Nat, k ≤ ws.length ∧ i = .int .i64 k ∧ Kept2 tb mb w wr ∧ Hid (ways (fun v => den (kinds S) t f v p) (ws.drop k) = some x) ∧ Hid (marksAt wr mb mk) ∧ Hid (∃ tr', tr'.length = tr.length ∧ triedAt wr tb tr' ∧ onlyVain S t (tr.set (M + p) true) tr')) (fun i _ => ws.length - (intOf i).toNat)
          case atStart => exact ⟨0, by omega, rfl, K1.out, hide Y.out, MK1, hide ⟨_, by simp, TR1.out, .refl _ _ _⟩⟩
          case round =>
            obtain ⟨k, hk, rfl, hkw, HW, HMk, HT⟩ := hrel
            by_cases hlt : k < ws.length
            · obtain ⟨wb', wo, rfl, hb1, hb2, hcell⟩ := WS.out k hlt
              have hcr := hkw.cell hcell hb1 hb2
              have hwS := SA'.out _ (List.getElem_mem hlt)
              have hww := HW.out
              rw [drop_next hlt] at hww
              obtain ⟨v, hv⟩ : ∃ v, ws[k] = v := ⟨_, rfl⟩
              rw [hv] at hww hcr hwS
              have HWW := hide hww
              clear hww hcell hv
              obtain ⟨tr2, hl2, ht2, hv2⟩ := HT.out
              have HV2 := hide hv2
              have HT2 := hide ht2
              have HL2 := hide hl2
              clear hv2 ht2 hl2
              obtain ⟨y, hy⟩ : ∃ y, den (kinds S) t f v p = some y := by
                rcases first_eq (a := den (kinds S) t f v p) (b := ways (fun v => den (kinds S) t f v p) (ws.drop (k + 1))) HWW.out with ⟨l, h, _⟩ | ⟨h, _⟩
                · exact ⟨_, h⟩
                · exact ⟨_, h⟩
              have HWW' : Hid (first (den (kinds S) t f v p) (ways (fun v => den (kinds S) t f v p) (ws.drop (k + 1))) = some x) := HWW.out
              have Y2 := hide hy
              clear hy
              go_wp2_with fail
              refine (IH.out v p y wr tr2 mk (by rw [HL2.out]; exact W.out.keep hkw) HT2.out HMk.out (by rw [HL2.out]; exact LT.out) LM.out Y2.out hwS hp (SP1.out.vain HV2.out)).mono ?_
              rintro e w2 ⟨rfl, hk2, tr', hl', ht', hno, hyes⟩
              cases y with
              | none =>
                obtain ⟨hm2, hv'⟩ := hno rfl
                have HM2 := hide hm2
                have HV' := hide hv'
                have HT' := hide ht'
                have HL' := hide hl'
                clear hno hyes hm2 hv' ht' hl'
                go_wp2
                go_roundw
                case rel =>
                  refine ⟨k + 1, by omega, by go_num, hkw.trans hk2, hide ?_, HM2, hide ⟨tr', HL'.out.trans HL2.out, HT'.out, HV2.out.trans HV'.out⟩⟩
                  have h := HWW'.out
                  rw [Y2.out] at h
                  exact h
                case measure => simp [intOf]; omega
              | some l =>
                have HX : Hid (x = some l) := by
                  show _ = _
                  have h := HWW'.out
                  rw [Y2.out] at h
                  exact (Option.some.inj h).symm
                have HM2 := hide (hyes l rfl)
                have HT' := hide ht'
                have HL' := hide hl'
                clear hno hyes ht' hl'
                go_wp2
                go_ret
                rw [HX.out]
                exact ⟨rfl, hkw.trans hk2, tr', HL'.out.trans HL2.out, HT'.out, fun h => (by cases h), fun l h => (by cases h; exact HM2.out)⟩
            · have HX : Hid (x = none) := by
                show _ = _
                have h := HW.out
                rw [List.drop_of_length_le (by omega)] at h
                exact (Option.some.inj h).symm
              obtain ⟨tr2, hl2, ht2, hv2⟩ := HT.out
              have HV2 := hide hv2
              have HT2 := hide ht2
              have HL2 := hide hl2
              clear hv2 ht2 hl2
              go_wp2
              go_ret
              have D' := D.out
              rw [HX.out] at D' ⊢
              exact ⟨rfl, hkw, tr2, HL2.out, HT2.out, fun _ => ⟨HMk.out, V1.out _ D' HV2.out⟩, fun l h => (by cases h)⟩
end Go.Proofs.YtndpjdmfkhjiiaaGreatDoor
namespace Go.Proofs.YtndpjdmfkhjiiaaGreatDoor
end Go.Proofs.YtndpjdmfkhjiiaaGreatDoor
