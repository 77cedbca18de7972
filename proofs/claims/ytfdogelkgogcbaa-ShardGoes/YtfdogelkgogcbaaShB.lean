/- shard: the check of an item; whether an item fits behind others. -/
import Derived.Laws.OwnMore
import Derived.Test.YtfdogelkgogcbaaProg
import Derived.Test.YtfdogelkgogcbaaKit
import Derived.Test.YtfdogelkgogcbaaReg
import Derived.Test.YtfdogelkgogcbaaLSpec
import Derived.Test.YtfdogelkgogcbaaLRow
import Derived.Test.YtfdogelkgogcbaaLChk
import Derived.Test.YtfdogelkgogcbaaLTwi
import Derived.Test.YtfdogelkgogcbaaShA
import Derived.BigQuiet
set_option linter.unusedVariables false
set_option linter.unusedSimpArgs false
namespace Go.Proofs.Ytfdogelkgogcbaa.Sh
open Go.RowKit Lb
attribute [local go_sem] bs_size bs_toList bs_append bs_get bs_extract

set_option maxRecDepth 20000 in
set_option maxHeartbeats 2000000 in
theorem checkItem_any (w : World) (x : Itm) (vl : Value) (hv : readsLabels w w.heap.size vl x.2.1) (hx : okItm x) :
    Calls Try.prog 23 #[.agg #[.int .i64 x.1, vl, .int .i64 x.2.2.1, .int .u64 (x.2.2.2 : Nat)]] w fun e w' => e = .returned (.int .i64 (itemErr x)) ∧ Grow w w' := by
  obtain ⟨E, HE⟩ : ∃ E, Hid (itemErr x = E) := ⟨_, hide rfl⟩
  rw [HE.out]
  obtain ⟨n, ls, t, b⟩ := x
  have HE1 : Hid ((if n < 0 ∨ timeB t = false then 3 else checkB ls) = E) := HE
  clear HE
  obtain ⟨h0, h1, h2, hl, hin⟩ := hx
  simp only at hv h0 h1 h2 hl hin ⊢
  obtain ⟨lo, lc, rfl⟩ := readsLabels_len hv
  obtain ⟨W, eW, gW, hW⟩ := laid_at w #[.int .i64 n, .slice lo ls.length lc, .int .i64 t, .int .u64 (b : Nat)] 39
  obtain ⟨c0, c1, c2, c3⟩ := four_of hW
  have HG := hide gW
  have HCK := hide (check_any W (.slice lo ls.length lc) ls (readsLabels_mono (readsLabels_below hv gW) gW.size) hl hin)
  generalize checkB ls = ce at HE1 HCK
  have HT := hide (isTime_any t)
  clear gW hW hv hin
  cases hn : decide (n < 0) with
  | true =>
    rw [if_pos (.inl (of_decide_eq_true hn))] at HE1
    go_enter Try.func23, Try.ntmps23
    go_wp2
    go_ret
    exact ⟨ret_int (by rw [← HE1.out]; rfl), HG.out⟩
  | false =>
    have hn2 := of_decide_eq_false hn
    cases ht : timeB t with
    | false =>
      rw [if_pos (.inr ht)] at HE1
      rw [ht] at HT
      clear hn2 ht
      go_enter Try.func23, Try.ntmps23
      go_wp2_with fail
      refine (HT.out _).mono ?_
      rintro e w2 ⟨rfl, rfl⟩
      go_wp2
      go_ret
      exact ⟨ret_int (by rw [← HE1.out]; rfl), HG.out⟩
    | true =>
      rw [if_neg (by rw [ht]; simp; omega)] at HE1
      rw [ht] at HT
      clear hn2 ht
      go_enter Try.func23, Try.ntmps23
      go_wp2_with fail
      refine (HT.out _).mono ?_
      rintro e w2 ⟨rfl, rfl⟩
      go_wp2_with fail
      refine HCK.out.mono ?_
      rintro e w3 ⟨rfl, hg3⟩
      have HG3 : Hid (Grow w w3) := hide (HG.out.trans hg3)
      clear hg3
      go_wp2
      go_ret
      exact ⟨ret_int (by rw [← HE1.out]), HG3.out⟩

/-- Does the number rise? -/
def fitsB (l : List Itm) (n : Int) : Bool := match l.getLast? with
  | none => true
  | some y => decide (y.1 < n)
theorem fitsB_nil (n : Int) : fitsB [] n = true := rfl
theorem fitsB_at {l : List Itm} {n : Int} (h : 0 < l.length) : fitsB l n = decide ((l[l.length - 1]'(by omega)).1 < n) := by
  unfold fitsB
  rw [List.getLast?_eq_getElem?, List.getElem?_eq_getElem (by omega)]

set_option maxRecDepth 20000 in
set_option maxHeartbeats 2000000 in
theorem fitsBehind_any (w : World) (vi vl : Value) (l : List Itm) (n t : Int) (b : Nat) (hv : readsItems w w.heap.size vi l) (hvl : ∃ ao m cp, vl = .slice ao m cp) (hl : l.length ≤ 9223372036854775807) :
    Calls Try.prog 24 #[vi, .agg #[.int .i64 n, vl, .int .i64 t, .int .u64 (b : Nat)]] w fun e w' => e = .returned (.bool (fitsB l n)) ∧ Grow w w' := by
  obtain ⟨lo, m, lc, rfl⟩ := hvl
  obtain ⟨F, HF⟩ : ∃ F, Hid (fitsB l n = F) := ⟨_, hide rfl⟩
  rw [HF.out]
  obtain ⟨io, ic, hvi, _, hcells⟩ := hv
  subst hvi
  obtain ⟨W, eW, gW, hW⟩ := laid_at w #[.int .i64 n, .slice lo m lc, .int .i64 t, .int .u64 (b : Nat)] 39
  obtain ⟨c0, c1, c2, c3⟩ := four_of hW
  have HG := hide gW
  clear hW
  by_cases h0 : 0 < l.length
  · obtain ⟨k, rb, rf, y, hio, hk, hk0, hk7, e0, hF⟩ : ∃ (k rb rf : Nat) (y : Int), io = some ⟨rb, rf, none⟩ ∧ l.length = k ∧ 0 < k ∧ k ≤ 9223372036854775807 ∧ W.cell? ⟨rb, rf + (k - 1) * 4, none⟩ = some (.int .i64 y) ∧ decide (y < n) = F := by
      obtain ⟨rb, rf, _, e, hrB, _, r0, _⟩ := hcells (l.length - 1) (by omega)
      exact ⟨_, rb, rf, _, e, rfl, h0, hl, (gW.cell (p := ⟨rb, rf + (l.length - 1) * 4, none⟩) hrB).trans r0, by rw [← HF.out, fitsB_at h0]⟩
    subst hio
    rw [hk]
    have hk1 : ((k : Int) == 0) = false := by rw [beq_eq_false_iff_ne]; omega
    have hk3 : ((k : Int) - 1) < (k : Int) := by omega
    have hk4 : (0 : Int) ≤ (k : Int) - 1 := by omega
    have hk5 : ((k : Int) - 1).toNat = k - 1 := by omega
    have hk6 : (1 : Int) ≤ (k : Int) := by omega
    clear hcells gW hk h0 hl HF hk0
    cases F with
    | true =>
      go_enter Try.func24, Try.ntmps24
      go_wp2
      go_quiet (fail)
      go_wp2
      go_ret
      exact ⟨rfl, HG.out.trans (grow_drew _ _)⟩
    | false =>
      go_enter Try.func24, Try.ntmps24
      go_wp2
      go_quiet (fail)
      go_wp2
      go_ret
      exact ⟨rfl, HG.out.trans (grow_drew _ _)⟩
  · obtain rfl : l = [] := List.length_eq_zero_iff.1 (by omega)
    have HF2 : Hid (true = F) := HF
    clear hcells gW HF h0 hl
    simp only [List.length_nil]
    go_enter Try.func24, Try.ntmps24
    go_wp2
    go_quiet (fail)
    go_wp2
    go_ret
    exact ⟨ret_bool HF2.out, HG.out.trans (grow_drew _ _)⟩
end Go.Proofs.Ytfdogelkgogcbaa.Sh
