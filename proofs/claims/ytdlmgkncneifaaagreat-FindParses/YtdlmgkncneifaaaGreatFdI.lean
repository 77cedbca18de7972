/- find: Diff. -/
import Derived.Laws.OwnMore
import Derived.Test.YtdlmgkncneifaaaGreatProg
import Derived.Test.YtdlmgkncneifaaaGreatKit
import Derived.Test.YtdlmgkncneifaaaGreatReg
import Derived.Test.YtdlmgkncneifaaaGreatLSpec
import Derived.Test.YtdlmgkncneifaaaGreatLRow
import Derived.Test.YtdlmgkncneifaaaGreatFdA
import Derived.Test.YtdlmgkncneifaaaGreatFdB
import Derived.Test.YtdlmgkncneifaaaGreatFdD
import Derived.Test.YtdlmgkncneifaaaGreatFdF
import Derived.Test.YtdlmgkncneifaaaGreatFdG
import Derived.Test.YtdlmgkncneifaaaGreatFdE
import Derived.Test.YtdlmgkncneifaaaGreatFdH
import Derived.BigQuiet
set_option linter.unusedVariables false
set_option linter.unusedSimpArgs false
namespace Go.Proofs.YtdlmgkncneifaaaGreat.Fd
open Go.RowKit Lb
attribute [local go_sem] bs_size bs_toList bs_append bs_get bs_extract

/-- These targets in their order: they are all there is of them. -/
def isSorted (l q : List Tgt) : Prop := q.Perm l ∧ q.Pairwise (fun a b => ordB a b ≤ 0)
theorem sorted_uniq {l q r : List Tgt} (h : isSorted l q) (k : isSorted l r) : q = r := by
  have hp : q.Perm r := h.1.trans k.1.symm
  refine hp.eq_of_pairwise (le := fun a b => ordB a b ≤ 0) (fun a b _ _ h1 h2 => ?_) h.2 k.2
  have := ordB_neg a b
  exact ordB_zero.1 (by omega)
theorem listsErr_two_zero {a b : List Tgt} (h : listsErr [a, b] = 0) : a.length ≤ 100 ∧ b.length ≤ 100 ∧ (∀ x ∈ a, checkB x = 0) ∧ (∀ x ∈ b, checkB x = 0) := by
  unfold listsErr manyLL at h
  split at h
  · cases h
  · rename_i hm
    simp at hm
    have key : ∀ {l : List Tgt}, firstT l = 0 → ∀ x ∈ l, checkB x = 0 := by
      intro l
      induction l with
      | nil => intro _ x hx; simp at hx
      | cons y l ih =>
        intro h x hx
        unfold firstT at h
        split at h
        · rename_i h0
          rcases List.mem_cons.1 hx with rfl | hx
          · exact h0
          · exact ih h x hx
        · rename_i h0; exact absurd h h0
    unfold firstLL at h
    split at h
    · rename_i h0
      unfold firstLL at h
      split at h
      · rename_i h1; exact ⟨hm.1, hm.2, key h0, key h1⟩
      · rename_i h1; exact absurd h h1
    · rename_i h0; exact absurd h h0
/-- Are two of them the same? -/
def dupT (l : List Tgt) : Prop := ¬ l.Nodup
theorem sameNext_iff {l q : List Tgt} (h : isSorted l q) : sameNext q = true ↔ ¬ l.Nodup := by
  rw [← h.1.nodup_iff]
  constructor
  · intro hs hn
    unfold sameNext at hs
    obtain ⟨j, hj, he⟩ := List.any_eq_true.1 hs
    have hj' := List.mem_range.1 hj
    rw [getD_at (show j < q.length by omega), getD_at (show j + 1 < q.length by omega)] at he
    have he := ordB_zero.1 (of_decide_eq_true he)
    exact List.pairwise_iff_getElem.1 hn j (j + 1) (by omega) (by omega) (by omega) he
  · intro hn
    cases hs : sameNext q with
    | true => rfl
    | false =>
      exfalso
      apply hn
      have hne : ∀ j (hj : j + 1 < q.length), ordB q[j] q[j + 1] < 0 := fun j hj => by
        have h1 := List.pairwise_iff_getElem.1 h.2 j (j + 1) (by omega) hj (by omega)
        have h2 : ordB q[j] q[j + 1] ≠ 0 := fun e => by rw [sameNext_yes hj e] at hs; cases hs
        omega
      have up : ∀ j i (hi : i < q.length) (hji : j < i), ordB (q[j]'(by omega)) q[i] < 0 := by
        intro j i
        induction i with
        | zero => intro _ h; omega
        | succ i ih =>
          intro hi hji
          by_cases e : j = i
          · subst e; exact hne j hi
          · exact ordB_trans (ih (by omega) (by omega)) (hne i hi)
      show q.Pairwise (· ≠ ·)
      rw [List.pairwise_iff_getElem]
      intro i j hi hj hij e
      have := up i j hj hij
      rw [e] at this
      have := ordB_zero.2 (rfl : q[j] = q[j])
      omega
/-- What Diff's error is. -/
def diffErr (a b : List Tgt) : Nat := if listsErr [a, b] = 0 then (if a.Nodup ∧ b.Nodup then 0 else 6) else listsErr [a, b]
/-- What Diff comes to. -/
def diffPost (a b : List Tgt) (w : World) (e : Ending) (w' : World) : Prop := Grow w w' ∧ ∃ v1 v2 v3 d, e = .returned (.tuple #[v1, v2, v3, .int .i64 (diffErr a b)]) ∧ readsTgts w' w'.heap.size v1 d.1 ∧ readsTgts w' w'.heap.size v2 d.2.1 ∧ readsTgts w' w'.heap.size v3 d.2.2 ∧ (if diffErr a b = 0 then ∃ qa qb, isSorted a qa ∧ isSorted b qb ∧ d = partT qa qb else d = ([], [], []))
theorem readsTgts_nil (w : World) (B : Nat) : readsTgts w B (.slice none 0 0) [] := ⟨none, 0, rfl, Nat.le_refl _, fun i h => absurd h (by simp)⟩
theorem diff_no {a b : List Tgt} {w w' : World} (h : diffErr a b ≠ 0) (g : Grow w w') : diffPost a b w (.returned (.tuple #[.slice none 0 0, .slice none 0 0, .slice none 0 0, .int .i64 (diffErr a b)])) w' :=
  ⟨g, _, _, _, ([], [], []), rfl, readsTgts_nil _ _, readsTgts_nil _ _, readsTgts_nil _ _, by rw [if_neg h]⟩
set_option maxRecDepth 20000 in
set_option maxHeartbeats 1200000 in
theorem diff_any (w : World) (va vb : Value) (a b : List Tgt) (ha : readsTgts w w.heap.size va a) (hb : readsTgts w w.heap.size vb b) (oa : okTgts a) (ob : okTgts b) :
    Calls Tryz.prog 9 #[va, vb] w (diffPost a b w) := by
  obtain ⟨ao, ac, hva⟩ := ha.shape
  obtain ⟨bo, bc, hvb⟩ := hb.shape
  obtain ⟨V, HV⟩ : ∃ V, Hid (w.alloc (.cells #[va, vb] 22) = V) := ⟨_, hide rfl⟩
  have hgV : Grow w V := by rw [← HV.out]; exact (Grow.refl w).alloc _
  have hbV : V.heap[w.heap.size]? = some (.cells #[va, vb] 22 (0, 0)) := by rw [← HV.out]; exact heap_alloc_new _ _
  obtain ⟨q0, q1⟩ := two_cells hbV
  have HCL := hide (checkLists_any V (.slice (some ⟨w.heap.size, 0, none⟩) 2 2) [a, b] ⟨w.heap.size, 2, rfl, lt_of_block hbV, fun i hi => by
    match i, hi with
    | 0, _ => exact ⟨va, q0, (ha.keep hgV).more hgV.size⟩
    | 1, _ => exact ⟨vb, q1, (hb.keep hgV).more hgV.size⟩⟩ (by simp) (by
    intro x hx
    simp only [List.mem_cons, List.not_mem_nil, or_false] at hx
    rcases hx with rfl | rfl
    · exact oa
    · exact ob))
  have HA := hide ha
  have HB := hide hb
  have HGV := hide hgV
  clear ha hb q0 q1 hbV hgV oa ob
  subst hva hvb
  by_cases h0 : listsErr [a, b] = 0
  · obtain ⟨l1, l2, h1, h2⟩ := listsErr_two_zero h0
    have HE : Hid (diffErr a b = if a.Nodup ∧ b.Nodup then 0 else 6) := hide (by unfold diffErr; rw [if_pos h0])
    have H1 := hide h1
    have H2 := hide h2
    rw [h0] at HCL
    clear h0 h1 h2
    go_enter Tryz.func9, Tryz.ntmps9
    go_wp2_with fail
    rw [HV.out]
    refine HCL.out.mono ?_
    rintro e w1 ⟨rfl, hg1⟩
    have HG1 : Hid (Grow w w1) := hide (HGV.out.trans hg1)
    have S1 := hide (fsorted_any w1 _ a ((HA.out.keep HG1.out).more HG1.out.size) (by omega) H1.out)
    clear hg1 HCL
    go_wp2_with fail
    refine S1.out.mono ?_
    rintro e w2 ⟨xa, qa, rfl, ho1, hp1, hs1, hg2⟩
    have HO1 := hide ho1
    have HI1 : Hid (isSorted a (tgts qa)) := hide ⟨hp1, hs1⟩
    have HG2 : Hid (Grow w w2) := hide (HG1.out.trans hg2)
    have S2 := hide (fsorted_any w2 _ b ((HB.out.keep HG2.out).more HG2.out.size) (by omega) H2.out)
    clear ho1 hp1 hs1 hg2 S1
    go_wp2_with fail
    refine S2.out.mono ?_
    rintro e w3 ⟨xb, qb, rfl, ho2, hp2, hs2, hg3⟩
    have HO2 := hide ho2
    have HI2 : Hid (isSorted b (tgts qb)) := hide ⟨hp2, hs2⟩
    have HG3 : Hid (Grow w w3) := hide (HG2.out.trans hg3)
    have HO1' := hide (HO1.out.grow hg3)
    clear ho2 hp2 hs2 hg3 S2
    have c1 : Hid (∀ p ∈ qa, checkB p.1 = 0) := hide fun p hp => H1.out _ (HI1.out.1.mem_iff.1 (List.mem_map.2 ⟨p, hp, rfl⟩))
    have c2 : Hid (∀ p ∈ qb, checkB p.1 = 0) := hide fun p hp => H2.out _ (HI2.out.1.mem_iff.1 (List.mem_map.2 ⟨p, hp, rfl⟩))
    have n1 : qa.length ≤ 100 := by have := HI1.out.1.length_eq; rw [tgts_length] at this; omega
    have n2 : qb.length ≤ 100 := by have := HI2.out.1.length_eq; rw [tgts_length] at this; omega
    have k1 : ∀ x ∈ tgts qa, checkB x = 0 := fun x hx => H1.out _ (HI1.out.1.mem_iff.1 hx)
    have k2 : ∀ x ∈ tgts qb, checkB x = 0 := fun x hx => H2.out _ (HI2.out.1.mem_iff.1 hx)
    have T1 := hide (ftwice_any w3 xa (tgts qa) HO1'.out.reads (by rw [tgts_length]; omega) k1)
    have K2 := hide k2
    obtain ⟨so, sc, hxa⟩ := own_shape HO1'.out.1
    obtain ⟨uo, uc, hxb⟩ := own_shape HO2.out.1
    clear k1 k2
    subst hxa hxb
    cases t1 : sameNext (tgts qa) with
    | true =>
      have hE : diffErr a b = 6 := by rw [HE.out, if_neg (fun h => (sameNext_iff HI1.out).1 t1 h.1)]
      rw [t1] at T1
      have HE6 := hide hE
      clear t1 hE
      go_wp2_with fail
      refine T1.out.mono ?_
      rintro e w4 ⟨rfl, hg4⟩
      have HG4 := hide (HG3.out.trans hg4)
      clear hg4 T1
      go_wp2
      have := diff_no (a := a) (b := b) (w := w) (by rw [HE6.out]; decide) HG4.out
      rw [HE6.out] at this
      refine bodyPost_ret (v := .tuple #[.slice none 0 0, .slice none 0 0, .slice none 0 0, .int .i64 6]) (by simp [results, Tryz.results9, go_sem]) rfl ?_
      exact this
    | false =>
      rw [t1] at T1
      have HT1 := hide t1
      clear t1
      go_wp2_with fail
      refine T1.out.mono ?_
      rintro e w4 ⟨rfl, hg4⟩
      have HG4 := hide (HG3.out.trans hg4)
      have HOA := hide (HO1'.out.grow hg4)
      have HOB := hide (HO2.out.grow hg4)
      have T2 := hide (ftwice_any w4 (.slice uo qb.length uc) (tgts qb) HOB.out.reads (by rw [tgts_length]; omega) K2.out)
      clear hg4 T1
      cases t2 : sameNext (tgts qb) with
      | true =>
        have hE : diffErr a b = 6 := by rw [HE.out, if_neg (fun h => (sameNext_iff HI2.out).1 t2 h.2)]
        rw [t2] at T2
        have HE6 := hide hE
        clear t2 hE
        go_wp2_with fail
        refine T2.out.mono ?_
        rintro e w5 ⟨rfl, hg5⟩
        have HG5 := hide (HG4.out.trans hg5)
        clear hg5 T2
        go_wp2
        have := diff_no (a := a) (b := b) (w := w) (by rw [HE6.out]; decide) HG5.out
        rw [HE6.out] at this
        refine bodyPost_ret (v := .tuple #[.slice none 0 0, .slice none 0 0, .slice none 0 0, .int .i64 6]) (by simp [results, Tryz.results9, go_sem]) rfl ?_
        exact this
      | false =>
        have hE : diffErr a b = 0 := by
          rw [HE.out, if_pos]
          refine ⟨Decidable.byContradiction fun h => ?_, Decidable.byContradiction fun h => ?_⟩
          · have := (sameNext_iff HI1.out).2 h; rw [HT1.out] at this; cases this
          · have := (sameNext_iff HI2.out).2 h; rw [t2] at this; cases this
        rw [t2] at T2
        have HE6 := hide hE
        clear t2 hE
        go_wp2_with fail
        refine T2.out.mono ?_
        rintro e w5 ⟨rfl, hg5⟩
        have HG5 := hide (HG4.out.trans hg5)
        have HOA5 := hide (HOA.out.grow hg5)
        have HOB5 := hide (HOB.out.grow hg5)
        have HP := hide (parted_any w5 _ _ qa qb HOA5.out.1.rest HOB5.out.1.rest (fun p hp => ⟨HOA5.out.lab p hp, c1.out p hp⟩) (fun p hp => ⟨HOB5.out.lab p hp, c2.out p hp⟩) (by omega) (by omega))
        clear hg5 T2
        go_wp2_with fail
        refine HP.out.mono ?_
        rintro e w6 ⟨v1, v2, v3, rfl, r1, r2, r3, hg6⟩
        have HR1 := hide r1
        have HR2 := hide r2
        have HR3 := hide r3
        have HG6 := hide (HG5.out.trans hg6)
        clear r1 r2 r3 hg6 HP
        go_wp2
        refine bodyPost_ret (v := .tuple #[v1, v2, v3, .int .i64 0]) (by simp [results, Tryz.results9, go_sem]) rfl ?_
        exact ⟨HG6.out, v1, v2, v3, _, by rw [HE6.out]; rfl, HR1.out, HR2.out, HR3.out, by rw [if_pos HE6.out]; exact ⟨_, _, HI1.out, HI2.out, rfl⟩⟩
  · have HE : Hid (diffErr a b = listsErr [a, b]) := hide (by unfold diffErr; rw [if_neg h0])
    have hne : ((listsErr [a, b] : Int) != 0) = true := by simpa using h0
    have H0 := hide h0
    generalize listsErr [a, b] = E at *
    clear h0
    go_enter Tryz.func9, Tryz.ntmps9
    go_wp2_with fail
    rw [HV.out]
    refine HCL.out.mono ?_
    rintro e w1 ⟨rfl, hg1⟩
    have HG1 : Hid (Grow w w1) := hide (HGV.out.trans hg1)
    clear hg1 HCL
    go_wp2
    have := diff_no (a := a) (b := b) (w := w) (by rw [HE.out]; exact H0.out) HG1.out
    rw [HE.out] at this
    refine bodyPost_ret (v := .tuple #[.slice none 0 0, .slice none 0 0, .slice none 0 0, .int .i64 E]) (by simp [results, Tryz.results9, go_sem]) rfl ?_
    exact this
end Go.Proofs.YtdlmgkncneifaaaGreat.Fd
