/- The reference: ValueOf, Order, SameLabels. -/
import Derived.Test.YtdlmgkncneifaaaGreatProg
import Derived.Test.YtdlmgkncneifaaaGreatKit
import Derived.Test.YtdlmgkncneifaaaGreatLSpec
import Derived.Test.YtdlmgkncneifaaaGreatReg
import Derived.Test.YtdlmgkncneifaaaGreatLRow
import Derived.BigQuiet
set_option linter.unusedVariables false
set_option linter.unusedSimpArgs false
namespace Go.Proofs.YtdlmgkncneifaaaGreat.Lb
open Go.RowKit
attribute [local go_sem] bs_size bs_toList bs_append bs_get bs_extract

theorem ordB_skip {a b : List Lab} {k : Nat} (h : ∀ j (ha : j < a.length) (hb : j < b.length), j < k → a[j] = b[j]) (hka : k ≤ a.length) (hkb : k ≤ b.length) : ordB a b = ordB (a.drop k) (b.drop k) := by
  induction k generalizing a b with
  | zero => rfl
  | succ k ih =>
    match a, b, hka, hkb with
    | x :: a, y :: b, hka, hkb =>
      have e : x = y := h 0 (by simp) (by simp) (by omega)
      subst e
      rw [List.drop_succ_cons, List.drop_succ_cons, ordB, if_pos (cmpLab_zero.2 rfl)]
      exact ih (fun j ha hb hj => h (j + 1) (Nat.succ_lt_succ ha) (Nat.succ_lt_succ hb) (by omega)) (Nat.le_of_succ_le_succ hka) (Nat.le_of_succ_le_succ hkb)
theorem ordB_at {a b : List Lab} {k : Nat} (ha : k < a.length) (hb : k < b.length) (h : ∀ j (ha : j < a.length) (hb : j < b.length), j < k → a[j] = b[j]) (hne : a[k] ≠ b[k]) : ordB a b = cmpLab a[k] b[k] := by
  rw [ordB_skip h (by omega) (by omega), List.drop_eq_getElem_cons ha, List.drop_eq_getElem_cons hb, ordB, if_neg (fun e => hne (cmpLab_zero.1 e))]
theorem ordB_short {a b : List Lab} (h : ∀ j (ha : j < a.length) (hb : j < b.length), a[j] = b[j]) : ordB a b = if a.length < b.length then -1 else if b.length < a.length then 1 else 0 := by
  by_cases h1 : a.length < b.length
  · rw [if_pos h1, ordB_skip (k := a.length) (fun j ha hb _ => h j ha hb) (by omega) (by omega), List.drop_eq_nil_of_le (Nat.le_refl _), List.drop_eq_getElem_cons h1]; rfl
  · rw [if_neg h1]
    by_cases h2 : b.length < a.length
    · rw [if_pos h2, ordB_skip (k := b.length) (fun j ha hb _ => h j ha hb) (by omega) (by omega), List.drop_eq_nil_of_le (Nat.le_refl b.length), List.drop_eq_getElem_cons h2]; rfl
    · rw [if_neg h2]
      exact ordB_zero.2 (List.ext_getElem (by omega) fun j ha hb => h j ha hb)

set_option maxRecDepth 20000 in
set_option maxHeartbeats 4000000 in
theorem rOrder_any (w : World) (va vb : Value) (a b : List Lab) (ha : readsLabels w w.heap.size va a) (hb : readsLabels w w.heap.size vb b) (hal : a.length ≤ 20) (hbl : b.length ≤ 20) :
    Calls Tryz.prog 34 #[va, vb] w fun e w' => e = .returned (.int .i64 (ordB a b)) ∧ ∃ n, w' = w.drewN n := by
  obtain ⟨ao, ac, rfl, acells⟩ := id ha
  obtain ⟨bo, bc, rfl, bcells⟩ := id hb
  clear ha hb
  go_enter Tryz.func34, Tryz.ntmps34
  go_wp2
  go_loopw [5] (fun i wr => ∃ k n : Nat, k ≤ a.length ∧ k ≤ b.length ∧ i = .int .i64 k ∧ wr = w.drewN n ∧ Hid (∀ j (ha : j < a.length) (hb : j < b.length), j < k → a[j] = b[j])) (fun i _ => a.length - (intOf i).toNat)
  case atStart => exact ⟨0, 0, by omega, by omega, rfl, rfl, hide (fun j _ _ h => by omega)⟩
  case round =>
    obtain ⟨k, n, hka, hkb, rfl, hw, HD⟩ := hrel
    have HW := hide hw
    clear hw
    by_cases hlt : k < a.length
    · by_cases hlt2 : k < b.length
      · obtain ⟨ab, aof, rfl, haB, a0, a1⟩ := acells k hlt
        obtain ⟨bb, bof, rfl, hbB, b0, b1⟩ := bcells k hlt2
        have d0 : ∀ n, (w.drewN n).cell? ⟨ab, aof + k * 2, none⟩ = some (.string (bs a[k].1)) := fun _ => a0
        have d1 : ∀ n, (w.drewN n).cell? ⟨ab, aof + k * 2 + 1, none⟩ = some (.string (bs a[k].2)) := fun _ => a1
        have e0 : ∀ n, (w.drewN n).cell? ⟨bb, bof + k * 2, none⟩ = some (.string (bs b[k].1)) := fun _ => b0
        have e1 : ∀ n, (w.drewN n).cell? ⟨bb, bof + k * 2 + 1, none⟩ = some (.string (bs b[k].2)) := fun _ => b1
        clear a0 a1 b0 b1 acells bcells
        have hw := HW.out
        subst hw
        have HAt := hide (ordB_at hlt hlt2 HD.out)
        obtain ⟨x, HX⟩ : ∃ x : Lab, Hid (a[k] = x) := ⟨_, hide rfl⟩
        obtain ⟨y, HY⟩ : ∃ y : Lab, Hid (b[k] = y) := ⟨_, hide rfl⟩
        rw [HX.out] at d0 d1 HAt
        rw [HY.out] at e0 e1 HAt
        by_cases h1 : x.1 = y.1
        · have h1' : (x.1 == y.1) = true := by simpa using h1
          have H1 := hide h1
          clear h1
          cases hl : Op.bytesLess x.2 y.2 with
          | true =>
            have HN : Hid (ordB a b = -1) := by
              show _ = _
              rw [HAt.out (fun e => by rw [e, bl_irrefl] at hl; cases hl), cmpLab, if_pos H1.out, cmpStr, if_pos hl]
            have HL := hide hl
            go_wp2
            go_quiet (fail)
            go_wp2
            go_quiet (fail)
            go_wp2
            go_ret
            exact ⟨ret_int (by rw [HN.out]), _, by first | rfl | rw [World.drewN_drewN] | rw [World.drewN_drewN, World.drewN_drewN]⟩
          | false =>
            by_cases h2 : x.2 = y.2
            · have H2 := hide h2
              have h2' : (x.2 == y.2) = true := by simpa using h2
              clear h2
              go_wp2
              go_quiet (fail)
              go_wp2
              go_quiet (fail)
              go_wp2
              go_roundw
              case rel => exact ⟨k + 1, _, by omega, by omega, by go_num, by first | rfl | rw [World.drewN_drewN] | rw [World.drewN_drewN, World.drewN_drewN], hide (fun j ha hb h => by
                by_cases e : j = k
                · subst e; rw [HX.out, HY.out]; exact Prod.ext H1.out H2.out
                · exact HD.out j ha hb (by omega))⟩
              case measure => simp [intOf]; omega
            · have H2 := hide h2
              have h2' : (x.2 == y.2) = false := by simpa using h2
              have HN : Hid (ordB a b = 1) := by
                show _ = _
                have hg : Op.bytesLess y.2 x.2 = true := by
                  cases h : Op.bytesLess y.2 x.2 with
                  | true => rfl
                  | false => exact absurd (bl_tri hl h) h2
                rw [HAt.out (fun e => h2 (by rw [e])), cmpLab, if_pos H1.out, cmpStr, if_neg (by rw [hl]; simp), if_pos hg]
              clear h2
              go_wp2
              go_quiet (fail)
              go_wp2
              go_quiet (fail)
              go_wp2
              go_ret
              exact ⟨ret_int (by rw [HN.out]), _, by first | rfl | rw [World.drewN_drewN] | rw [World.drewN_drewN, World.drewN_drewN]⟩
        · have h1' : (x.1 == y.1) = false := by simpa using h1
          have H1 := hide h1
          clear h1
          cases hl : Op.bytesLess x.1 y.1 with
          | true =>
            have HN : Hid (ordB a b = -1) := by
              show _ = _
              rw [HAt.out (fun e => H1.out (by rw [e])), cmpLab, if_neg H1.out, cmpStr, if_pos hl]
            have HL := hide hl
            go_wp2
            go_quiet (fail)
            go_wp2
            go_ret
            exact ⟨ret_int (by rw [HN.out]), _, by first | rfl | rw [World.drewN_drewN] | rw [World.drewN_drewN, World.drewN_drewN]⟩
          | false =>
            have HN : Hid (ordB a b = 1) := by
              show _ = _
              have hg : Op.bytesLess y.1 x.1 = true := by
                cases h : Op.bytesLess y.1 x.1 with
                | true => rfl
                | false => exact absurd (bl_tri hl h) H1.out
              rw [HAt.out (fun e => H1.out (by rw [e])), cmpLab, if_neg H1.out, cmpStr, if_neg (by rw [hl]; simp), if_pos hg]
            go_wp2
            go_quiet (fail)
            go_wp2
            go_ret
            exact ⟨ret_int (by rw [HN.out]), _, by first | rfl | rw [World.drewN_drewN] | rw [World.drewN_drewN, World.drewN_drewN]⟩
      · have HS := hide (ordB_short (a := a) (b := b) (fun j ha hb => HD.out j ha hb (by omega)))
        have h1 : ¬ (a.length : Int) < b.length := by omega
        have h2 : (b.length : Int) < a.length := by omega
        go_wp2
        go_ret
        exact ⟨ret_int (by rw [HS.out, if_neg (by omega), if_pos (by omega)]), n, HW.out⟩
    · have HS := hide (ordB_short (a := a) (b := b) (fun j ha hb => HD.out j ha hb (by omega)))
      have h2 : ¬ (b.length : Int) < a.length := by omega
      by_cases h1 : a.length < b.length
      · have h1' : (a.length : Int) < b.length := by omega
        go_wp2
        go_ret
        exact ⟨ret_int (by rw [HS.out, if_pos (by omega)]), n, HW.out⟩
      · have h1' : ¬ (a.length : Int) < b.length := by omega
        go_wp2
        go_ret
        exact ⟨ret_int (by rw [HS.out, if_neg (by omega), if_neg (by omega)]), n, HW.out⟩

theorem lab_ne {x y : Lab} (h : x ≠ y) : (x.1 == y.1) = false ∨ ((x.1 == y.1) = true ∧ (x.2 == y.2) = false) := by
  by_cases h1 : x.1 = y.1
  · refine .inr ⟨by simpa using h1, ?_⟩
    rw [beq_eq_false_iff_ne]
    intro h2
    exact h (Prod.ext h1 h2)
  · exact .inl (by simpa using h1)

set_option maxRecDepth 20000 in
set_option maxHeartbeats 2000000 in
theorem sameLabels_any (w : World) (va vb : Value) (a b : List Lab) (ha : readsLabels w w.heap.size va a) (hb : readsLabels w w.heap.size vb b) (hl : a.length ≤ 1000000) (hl2 : b.length ≤ 9223372036854775807) :
    Calls Tryz.prog 13 #[va, vb] w fun e w' => e = .returned (.bool (decide (a = b))) ∧ ∃ n, w' = w.drewN n := by
  obtain ⟨ao, ac, rfl, acells⟩ := ha
  obtain ⟨bo, bc, rfl, bcells⟩ := hb
  by_cases hlen : a.length = b.length
  · go_enter Tryz.func13, Tryz.ntmps13
    have hlen' : ((a.length : Int) != b.length) = false := by simp; omega
    go_wp2
    go_loopw [5] (fun i wr => ∃ k n : Nat, k ≤ a.length ∧ i = .int .i64 k ∧ wr = w.drewN n ∧ Hid (∀ j (ha : j < a.length) (hb : j < b.length), j < k → a[j] = b[j])) (fun i _ => a.length - (intOf i).toNat)
    case atStart => exact ⟨0, 0, by omega, rfl, rfl, hide (fun j _ _ h => by omega)⟩
    case round =>
      obtain ⟨k, n, hk, rfl, hw, HD⟩ := hrel
      have HW := hide hw
      clear hw
      by_cases hlt : k < a.length
      · have hltb : k < b.length := by omega
        obtain ⟨ab, aof, rfl, haB, a0, a1⟩ := acells k hlt
        obtain ⟨bb, bof, rfl, hbB, b0, b1⟩ := bcells k hltb
        have d0 : wr.cell? ⟨ab, aof + k * 2, none⟩ = some (.string (bs a[k].1)) := by rw [HW.out]; exact a0
        have d1 : wr.cell? ⟨ab, aof + k * 2 + 1, none⟩ = some (.string (bs a[k].2)) := by rw [HW.out]; exact a1
        have e0 : wr.cell? ⟨bb, bof + k * 2, none⟩ = some (.string (bs b[k].1)) := by rw [HW.out]; exact b0
        have e1 : wr.cell? ⟨bb, bof + k * 2 + 1, none⟩ = some (.string (bs b[k].2)) := by rw [HW.out]; exact b1
        clear a0 a1 b0 b1 acells bcells
        by_cases he : a[k] = b[k]
        · have HE := hide he
          rw [← he] at e0 e1
          clear he
          go_wp2
          go_quiet (fail)
          go_wp2
          go_roundw
          case rel => exact ⟨k + 1, _, by omega, by go_num, by rw [HW.out, World.drewN_drewN], hide (fun j ha hb h => by
            by_cases e : j = k
            · subst e; exact HE.out
            · exact HD.out j ha hb (by omega))⟩
          case measure => simp [intOf]; omega
        · have HF : Hid (decide (a = b) = false) := by
            show _ = _
            rw [decide_eq_false_iff_not]
            intro e
            subst e
            exact he rfl
          have hne := lab_ne he
          clear he
          rcases hne with h1 | ⟨h1, h2⟩
          all_goals
            go_wp2
            go_quiet (fail)
            go_wp2
            go_ret
            exact ⟨ret_bool (by rw [HF.out]), _, by rw [HW.out, World.drewN_drewN]⟩
      · have HF : Hid (decide (a = b) = true) := by
          show _ = _
          rw [decide_eq_true_iff]
          exact List.ext_getElem hlen fun j ha hb => HD.out j ha hb (by omega)
        go_wp2
        go_ret
        exact ⟨ret_bool (by rw [HF.out]), n, HW.out⟩
  · have HF : Hid (decide (a = b) = false) := by
      show _ = _
      rw [decide_eq_false_iff_not]
      intro e
      subst e
      exact hlen rfl
    have hlen' : ((a.length : Int) != b.length) = true := by simp; omega
    go_enter Tryz.func13, Tryz.ntmps13
    go_wp2
    go_ret
    exact ⟨ret_bool (by rw [HF.out]), 0, rfl⟩

end Go.Proofs.YtdlmgkncneifaaaGreat.Lb
