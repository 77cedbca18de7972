/- 2 texts in one. -/
import Derived.Test.YtndpjdmfkhjiiaaGreatDoorProg
import Derived.Test.YtndpjdmfkhjiiaaGreatDoorK97fdc06
import Derived.Test.YtndpjdmfkhjiiaaGreatDoorKdd2361c
import Derived.Test.YtndpjdmfkhjiiaaGreatDoorKb8b36ab
import Derived.Test.YtndpjdmfkhjiiaaGreatDoorK36433a5
import Derived.BigFrame
import Derived.Test.YtndpjdmfkhjiiaaGreatDoorKbff346a
import Derived.Test.YtndpjdmfkhjiiaaGreatDoorK395e834
import Derived.Test.YtndpjdmfkhjiiaaGreatDoorKa2d19b0
import Derived.BigQuiet
set_option linter.unusedVariables false
set_option linter.unusedSimpArgs false
namespace Go.Proofs.YtndpjdmfkhjiiaaGreatDoor.Rl
open Go.RowKit
attribute [local go_sem] bs_size bs_toList bs_append bs_get bs_extract
/-- A rule. -/
structure Rul where
  kind : Int
  sources : List (List UInt8)
  between : List UInt8
  mask : List UInt8
  modulus : Int
  target : List UInt8
  repl : List UInt8
/-- A rule's cells, whose sources are a row. -/
def ruleC (r : Rul) (v : Value) : List Value := [.int .i64 r.kind, v, .string (bs r.between), .string (bs r.mask), .int .i64 r.modulus, .string (bs r.target), .string (bs r.repl)]
/-- A template is one, whatever it is filled with. -/
def tmB (t : List UInt8) : Bool := (tmAt t 0).isSome
theorem tmR_is : ∀ {f : Nat} {t : List UInt8} {l : List (List UInt8 × Int)}, tmR f t = some l → l.length ≤ t.length ∧ ∀ x ∈ l, x.1.length ≤ 1 := by
  intro f
  induction f with
  | zero =>
    intro t l h
    cases t with
    | nil => cases h; exact ⟨Nat.le_refl _, fun x hx => by simp at hx⟩
    | cons c t => cases h
  | succ f ih =>
    intro t l h
    cases t with
    | nil => cases h; exact ⟨Nat.le_refl _, fun x hx => by simp at hx⟩
    | cons c t =>
      have key : ∀ (r : List UInt8) (x : List UInt8 × Int), x.1.length ≤ 1 → r.length ≤ t.length → (tmR f r).map (x :: ·) = some l → l.length ≤ (c :: t).length ∧ ∀ y ∈ l, y.1.length ≤ 1 := by
        intro r x hx hr hm
        cases hq : tmR f r with
        | none => rw [hq] at hm; cases hm
        | some l2 =>
          rw [hq] at hm
          cases hm
          obtain ⟨h1, h2⟩ := ih hq
          refine ⟨by simp; omega, fun y hy => ?_⟩
          rcases List.mem_cons.1 hy with rfl | hy
          · exact hx
          · exact h2 y hy
      rw [tmR] at h
      split at h
      · exact key _ _ (by simp) (Nat.le_refl _) h
      · split at h
        · exact key _ _ (by simp) (by simp) h
        · split at h
          · exact key _ _ (by simp) (by simp) h
          · split at h
            · exact key _ _ (by simp) (by simp) h
            · cases h
theorem valT_len {M : Nat} {whole : List UInt8} {gs : List (List UInt8)} {x : List UInt8 × Int} (hw : whole.length ≤ M) (hg : ∀ s ∈ gs, s.length ≤ M) (hx : x.1.length ≤ M) : (valT whole gs x).length ≤ M := by
  unfold valT
  split
  · exact hw
  · split
    · rw [List.getD_eq_getElem?_getD]
      cases hq : gs[x.2.toNat - 1]? with
      | none => simp
      | some s => exact hg s (List.mem_of_getElem? hq)
    · omega
theorem valsT_len {M : Nat} {whole : List UInt8} {gs : List (List UInt8)} : ∀ {l : List (List UInt8 × Int)}, (∀ x ∈ l, (valT whole gs x).length ≤ M) → (valsT whole gs l).length ≤ M * l.length
  | [], _ => by simp [valsT]
  | x :: l, h => by
    have h1 := h x (by simp)
    have h2 := valsT_len fun y hy => h y (List.mem_cons_of_mem _ hy)
    rw [valsT_cons, List.length_append, List.length_cons, Nat.mul_succ]
    omega
/-- What Expand answers, where what it is filled with is short. -/
theorem exAns_is {t whole : List UInt8} {gs : List (List UInt8)} {M : Nat} (hM : 1 ≤ M) (ht : M * t.length ≤ 20000) (hw : whole.length ≤ M) (hg : ∀ s ∈ gs, s.length ≤ M) :
    exAns t whole gs = match tmAt t 0 with | none => ([], 1) | some l => (valsT whole gs l, 0) := by
  have hte : (tmAt t 0).map (valsT whole gs) = exP whole gs t.length t := tm_ex whole gs t.length t t.length (Nat.le_refl _) (Nat.le_refl _)
  unfold exAns
  rw [← hte]
  cases h : tmAt t 0 with
  | none => rfl
  | some l =>
    obtain ⟨h1, h2⟩ := tmR_is (show tmR t.length (t.drop 0) = some l from h)
    have h3 : (valsT whole gs l).length ≤ M * l.length := valsT_len fun x hx => valT_len hw hg (Nat.le_trans (h2 x hx) hM)
    have h4 : M * l.length ≤ M * t.length := Nat.mul_le_mul_left _ (by simpa using h1)
    show (if 20000 < _ then _ else _) = _
    rw [if_neg (by omega)]
set_option maxHeartbeats 1000000 in
theorem cut_any (s : List UInt8) (w : World) (hs : s.length ≤ 9223372036854775807) : Calls Tryz.prog 103 #[.string (bs s)] w fun e w' => e = .returned (.string (bs (s.take 100))) ∧ w' = w := by
  by_cases h : s.length ≤ 100
  · have h1 : min (s.length : Int) 100 = s.length := by omega
    have h2 : s.take 100 = s := List.take_of_length_le h
    rw [h2]
    go_enter Tryz.func103, Tryz.ntmps103
    go_wp2
    go_ret
    refine ⟨?_, rfl⟩
    simp [h1]
  · have h1 : min (s.length : Int) 100 = 100 := by omega
    go_enter Tryz.func103, Tryz.ntmps103
    go_wp2
    go_ret
    refine ⟨?_, rfl⟩
    simp [h1]
set_option maxHeartbeats 1000000 in
theorem isTemplate_any (s : List UInt8) (w : World) (hs : s.length ≤ 100) : Calls Tryz.prog 72 #[.string (bs s)] w fun e w' => e = .returned (.bool (tmB s)) ∧ Grow w w' := by
  have HE := hide fun W => expand_any s [] [] (.slice none 0 0) W (by omega) (by simp) (by simp) (fun _ h => by simp at h) ⟨none, 0, rfl, fun i h => absurd h (by simp)⟩
  have hx := exAns_is (t := s) (whole := []) (gs := []) (M := 1) (Nat.le_refl _) (by omega) (by simp) (fun _ h => by simp at h)
  rw [hx] at HE
  clear hx
  unfold tmB
  cases hN : tmAt s 0 with
  | none =>
    rw [hN] at HE
    clear hN
    go_enter Tryz.func72, Tryz.ntmps72
    go_wp2_with fail
    refine (HE.out w).mono ?_
    rintro e w' ⟨rfl, hg⟩
    go_wp2
    go_ret
    exact ⟨rfl, hg⟩
  | some l =>
    rw [hN] at HE
    clear hN
    go_enter Tryz.func72, Tryz.ntmps72
    go_wp2_with fail
    refine (HE.out w).mono ?_
    rintro e w' ⟨rfl, hg⟩
    go_wp2
    go_ret
    exact ⟨rfl, hg⟩
/-- Is a text like a mask that is right? -/
noncomputable def likeR (T : Tr) (t : List UInt8) : Bool := (wayOf T t).isSome
set_option maxHeartbeats 1000000 in
theorem like_any (w : World) (m t : List UInt8) {T : Tr} {g : Nat} (h : maskIs m = .ok (T, g)) (ht : t.length ≤ 2000) :
    Calls Tryz.prog 62 #[.string (bs m), .string (bs t)] w fun e w' => e = .returned (.bool (likeR T t)) ∧ Grow w w' := by
  have hm := (maskIs_ok h).2.2.2.2.2
  have HM : Hid (∀ W, Calls Tryz.prog 27 #[.string (bs m), .string (bs t)] W fun e w' => Grow W w' ∧ ∃ ao k cp, e = .returned (.tuple #[.bool (likeR T t), .slice ao k cp, .int .i64 0])) := by
    intro W
    refine (match_any W m t (by omega) (by omega)).mono ?_
    rintro e w' ⟨hg, ha⟩
    refine ⟨hg, ?_⟩
    unfold matchAns at ha
    rw [h] at ha
    simp only at ha
    unfold matchOk at ha
    rw [if_neg (by omega)] at ha
    unfold likeR
    cases hw : wayOf T t with
    | none => rw [hw] at ha; exact ⟨_, _, _, ha⟩
    | some l =>
      rw [hw] at ha
      obtain ⟨v, h1, h2⟩ := ha
      obtain ⟨ao, cp, rfl⟩ := own_shape h2
      exact ⟨ao, _, cp, h1⟩
  generalize likeR T t = b at HM ⊢
  clear h hm
  go_enter Tryz.func62, Tryz.ntmps62
  go_wp2_with fail
  refine (HM.out w).mono ?_
  rintro e w' ⟨hg, ao, k, cp, rfl⟩
  go_wp2
  go_ret
  exact ⟨rfl, hg⟩
end Go.Proofs.YtndpjdmfkhjiiaaGreatDoor.Rl
namespace Go.Proofs.YtndpjdmfkhjiiaaGreatDoor
open Go.RowKit
attribute [local go_sem] bs_size bs_toList bs_append bs_get bs_extract
set_option maxRecDepth 20000 in
set_option maxHeartbeats 1000000 in
theorem sameTexts_any (w : World) (v1 v2 : Value) (a b : List (List UInt8)) (h1 : readsStrs w w.heap.size v1 a) (h2 : readsStrs w w.heap.size v2 b) (ha : a.length ≤ 9223372036854775807) (hb : b.length ≤ 9223372036854775807) :
    Calls Tryz.prog 53 #[v1, v2] w fun e w' => e = .returned (.bool (decide (a = b))) ∧ ∃ n, w' = w.drewN n := by
  obtain ⟨ao, ac, rfl, hc1⟩ := h1
  obtain ⟨bo, bc, rfl, hc2⟩ := h2
  have H1 := hide hc1
  have H2 := hide hc2
  clear hc1 hc2
  by_cases hl : a.length = b.length
  · have HL := hide hl
    have hlb : ((a.length : Int) != b.length) = false := by simp [hl]
    clear hl
    go_enter Tryz.func53, Tryz.ntmps53
    go_wp2
    go_loopw [5] (fun v wr => ∃ k : Nat, k ≤ a.length ∧ v = .int .i64 k ∧ (∃ n, wr = w.drewN n) ∧ Hid (a.take k = b.take k)) (fun v _ => a.length - (intOf v).toNat)
    case atStart => exact ⟨0, by omega, rfl, ⟨0, rfl⟩, hide rfl⟩
    case round =>
      obtain ⟨k, hk, rfl, ⟨n, rfl⟩, HT⟩ := hrel
      by_cases hlt : k < a.length
      · have hltb : k < b.length := by rw [← HL.out]; exact hlt
        have hk1 : (k : Int) < a.length := by omega
        have hk2 : (k : Int) < b.length := by omega
        obtain ⟨p, po, rfl, hp, hcp⟩ := H1.out k hlt
        obtain ⟨q, qo, rfl, hq, hcq⟩ := H2.out k hltb
        obtain ⟨x, hx⟩ : ∃ x, a[k] = x := ⟨_, rfl⟩
        obtain ⟨y, hy⟩ : ∃ y, b[k] = y := ⟨_, rfl⟩
        rw [hx] at hcp
        rw [hy] at hcq
        have HX : Hid (a[k]? = some x) := hide (by rw [List.getElem?_eq_getElem hlt, hx])
        have HY : Hid (b[k]? = some y) := hide (by rw [List.getElem?_eq_getElem hltb, hy])
        have dcp : (w.drewN n).cell? ⟨p, po + k, none⟩ = some (.string (bs x)) := hcp
        have dcq : (w.drewN n).cell? ⟨q, qo + k, none⟩ = some (.string (bs y)) := hcq
        by_cases he : x = y
        · subst he
          have HT2 : Hid (a.take (k + 1) = b.take (k + 1)) := by
            show _ = _
            rw [List.take_add_one, List.take_add_one, HT.out, HX.out, HY.out]
          clear hx hy
          go_wp2
          go_quiet (fail)
          go_wp2
          refine ⟨⟨k + 1, by omega, by go_num, ⟨_, rfl⟩, HT2⟩, ?_⟩
          simp [intOf]; omega
        · have hne : (x != y) = true := by simpa using he
          have hne2 : (x == y) = false := by simpa using he
          have HD : Hid (decide (a = b) = false) := by
            show _ = _
            simp only [decide_eq_false_iff_not]
            rintro rfl
            have h1 := HX.out
            rw [HY.out] at h1
            exact he (Option.some.inj h1).symm
          clear hx hy he
          go_wp2
          go_quiet (fail)
          go_wp2
          go_ret
          exact ⟨ret_bool HD.out.symm, _, World.drewN_drewN _ _ _⟩
      · obtain rfl : k = a.length := by omega
        have hT := HT.out
        rw [List.take_length, List.take_of_length_le (by rw [HL.out]; exact Nat.le_refl _)] at hT
        have HD : Hid (decide (a = b) = true) := hide (by simpa using hT)
        clear hT
        go_wp2
        go_ret
        exact ⟨ret_bool HD.out.symm, n, rfl⟩
  · have HD : Hid (decide (a = b) = false) := by
      show _ = _
      simp only [decide_eq_false_iff_not]
      rintro rfl
      exact hl rfl
    have hlb : ((a.length : Int) != b.length) = true := by simp; omega
    go_enter Tryz.func53, Tryz.ntmps53
    go_wp2
    go_ret
    exact ⟨ret_bool HD.out.symm, 0, rfl⟩
/-! ### the two examples -/
def exaM : List UInt8 := [40, 97, 124, 98, 41, 43, 99]
def exaT : Tr := .row (.grp 0 (.row (.set (between 97 97) 0 .nil) (.row (.set (between 98 98) 0 .nil) .nil)) 43 (.set (between 99 99) 0 .nil)) .nil
theorem exa_is : maskIs exaM = .ok (exaT, 1) := by rfl
theorem exa_way : wayOf exaT [97, 98, 99] = some [(0, 0), (1, 1), (0, 1), (1, 2)] := wayOf_eq (f := 60) (by decide)
theorem exa_took : tookL [97, 98, 99] [(0, 0), (1, 1), (0, 1), (1, 2)] 1 = [[98]] := by decide
theorem exa_filled : exAns [60, 36, 49, 62] [97, 98, 99] [[98]] = ([60, 98, 62], 0) := by decide
set_option maxRecDepth 20000 in
set_option maxHeartbeats 1000000 in
theorem maskBegun_any (w : World) : Calls Tryz.prog 23 #[] w fun e w' => e = .returned (.bool true) ∧ Grow w w' := by
  have HM := hide fun W => match_any W exaM [97, 98, 99] (by decide) (by decide)
  unfold matchAns at HM
  rw [exa_is] at HM
  simp only [exa_way] at HM
  go_enter Tryz.func23, Tryz.ntmps23
  go_wp2_with fail
  refine (HM.out w).mono ?_
  rintro e w1 ⟨hg, h⟩
  unfold matchOk at h
  simp only [exa_took] at h
  rw [if_neg (by decide)] at h
  obtain ⟨v, rfl, ho⟩ := h
  have hr := readsStrs_own ho
  obtain ⟨ao, cp, rfl⟩ := own_shape ho
  have HX := hide (expand_any [60, 36, 49, 62] [97, 98, 99] [[98]] _ w1 (by decide) (by decide) (by decide) (by decide) hr)
  rw [exa_filled] at HX
  have HR := hide hr
  have HG := hide hg
  clear hr ho hg HM
  go_wp2_with fail
  refine HX.out.mono ?_
  rintro e w2 ⟨rfl, hg2⟩
  have HR2 := hide ((HR.out.keep hg2).more hg2.size)
  have HG2 : Hid (Grow w w2) := hide (HG.out.trans hg2)
  clear hg2
  go_wp2_with fail
  have hn : (w2.alloc (.cells #[.string (bs [98])] 9)).heap[w2.heap.size]? = some (.cells #[.string (bs [98])] 9 (0, 0)) := heap_alloc_new _ _
  have hg3 : Grow w2 (w2.alloc (.cells #[.string (bs [98])] 9)) := (Grow.refl _).alloc _
  have hs3 : w2.heap.size < (w2.alloc (.cells #[.string (bs [98])] 9)).heap.size := by simp
  refine (sameTexts_any (w2.alloc (.cells #[.string (bs [98])] 9)) _ (.slice (some ⟨w2.heap.size, 0, none⟩) 1 1) [[98]] [[98]] ((HR2.out.keep hg3).more hg3.size) ⟨_, _, rfl, fun i hi => ⟨w2.heap.size, 0, rfl, hs3, ?_⟩⟩ (by decide) (by decide)).mono ?_
  · match i, hi with
    | 0, _ => exact cell_of_one hn
  · rintro e w4 ⟨rfl, n, rfl⟩
    have HG4 : Hid (Grow w ((w2.alloc (.cells #[.string (bs [98])] 9)).drewN n)) := hide ((HG2.out.trans hg3).trans (grow_drewN _ n))
    clear hn hg3 hs3
    go_wp2
    go_ret
    exact ⟨rfl, HG4.out⟩
end Go.Proofs.YtndpjdmfkhjiiaaGreatDoor
