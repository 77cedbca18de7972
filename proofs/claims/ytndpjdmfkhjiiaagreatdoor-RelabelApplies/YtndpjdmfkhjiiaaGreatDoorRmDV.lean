/- The reference's numbers: From, Trim. -/
import Derived.Laws.OwnMore
import Derived.Test.YtndpjdmfkhjiiaaGreatDoorProg
import Derived.Test.YtndpjdmfkhjiiaaGreatDoorQ74d152
import Derived.Test.YtndpjdmfkhjiiaaGreatDoorQfa040f
import Derived.Test.YtndpjdmfkhjiiaaGreatDoorRlAV
import Derived.Test.YtndpjdmfkhjiiaaGreatDoorQb168a2
import Derived.BigFrame
set_option linter.unusedVariables false
set_option linter.unusedSimpArgs false
namespace Go.Proofs.YtndpjdmfkhjiiaaGreatDoor.Rl
open Go.RowKit Lb
attribute [local go_sem] bs_size bs_toList bs_append bs_get bs_extract

/-- A number's limbs, the lowest first. -/
def limbs (n : Nat) : List Nat := if n = 0 then [] else n % 65536 :: limbs (n / 65536)
theorem limbs_zero : limbs 0 = [] := by unfold limbs; rfl
theorem limbs_pos {n : Nat} (h : 0 < n) : limbs n = n % 65536 :: limbs (n / 65536) := by rw [limbs, if_neg (by omega)]
theorem limbs_len : ∀ (k n : Nat), n < 65536 ^ k → (limbs n).length ≤ k
  | 0, n, h => by obtain rfl : n = 0 := by simp at h; omega
                  rw [limbs_zero]; simp
  | k + 1, n, h => by
    by_cases h0 : n = 0
    · subst h0; rw [limbs_zero]; simp
    · rw [limbs_pos (by omega), List.length_cons]
      have := limbs_len k (n / 65536) (by rw [Nat.div_lt_iff_lt_mul (by decide)]; rw [Nat.pow_succ] at h; exact h)
      omega
def limV (l : List Nat) : List Value := l.map fun (k : Nat) => Value.int .i64 (k : Int)
theorem limV_len (l : List Nat) : (limV l).length = l.length := by simp [limV]
theorem limV_snoc (l : List Nat) (k : Nat) : limV (l ++ [k]) = limV l ++ limV [k] := by simp [limV]
def ownLim (w : World) (B : Nat) (v : Value) (l : List Nat) : Prop := w.ownsRow B 3 1 v l.length (limV l)

set_option maxRecDepth 20000 in
set_option maxHeartbeats 4000000 in
theorem from_any (w : World) (n : Nat) (h : n < 65536 ^ 3) : Calls Tryz.prog 22 #[.int .i64 n] w fun e w' => Grow w w' ∧ ∃ v, e = .returned v ∧ ownLim w' w.heap.size v (limbs n) := by
  obtain ⟨i0, hinf, hz0, hz1, hz2⟩ := info_parts Tryz.infoI
  have hlen := limbs_len 3 n h
  obtain ⟨L, HL⟩ : ∃ L, Hid (limbs n = L) := ⟨_, hide rfl⟩
  rw [HL.out] at hlen ⊢
  go_enter Tryz.func22, Tryz.ntmps22
  go_wp2
  go_loopw [0, 3] (fun a v wr => ∃ (m : Nat) (pre : List Nat), a = .int .i64 m ∧ m ≤ n ∧ Hid (pre ++ limbs m = L) ∧ Hid (Grow w wr) ∧ Hid (ownLim wr w.heap.size v pre)) (fun a _ _ => (intOf a).toNat)
  case atStart => exact ⟨n, [], rfl, by omega, HL, hide (Grow.refl _), hide (World.ownsRow_nil _ _ _ _)⟩
  case round =>
    obtain ⟨m, pre, rfl, hmn, HP, HG, HO⟩ := hrel
    have hbs := HG.out.size
    by_cases h0 : m = 0
    · subst h0
      have hpl : pre = L := by have := HP.out; rw [limbs_zero, List.append_nil] at this; exact this
      subst hpl
      obtain ⟨vo, vc, rfl⟩ := own_shape HO.out
      go_wp2
      go_ret
      exact ⟨HG.out, _, rfl, HO.out⟩
    · have hm0 : (0 : Int) < m := by omega
      have HS : Hid ((pre ++ [m % 65536]) ++ limbs (m / 65536) = L) := hide (by
        have := HP.out
        rw [limbs_pos (by omega)] at this
        rw [List.append_assoc]
        exact this)
      have hpl : pre.length ≤ 3 := by
        have := congrArg List.length HS.out
        simp at this
        omega
      have hown := HO.out
      obtain ⟨vo, vc, rfl⟩ := own_shape hown
      go_wp2_with (at_builtin; go_loud (refine wpList_append_own _ rfl _ _ 46 rfl w.heap.size 3 i0 (.int .i64 0) 1 8 Tryz.underlying46 hinf hz0 hz1 hz2 rfl (by omega) (.slice vo pre.length vc) pre.length (limV pre) rfl (hown.alloc _) ⟨wr.heap.size, 0, none⟩ 1 1 (limV [m % 65536]) rfl rfl (World.news_of_block (cs := #[.int .i64 ((m % 65536 : Nat) : Int)]) (heap_alloc_new wr _)) (by simp [limV, Value.oneCell']) (by unfold maxLen; omega) (by omega) (by simp; omega) ?_); intro v' w1 hown' hgrow _)
      have hbw : Below w.heap.size w (wr.alloc (.cells #[.int .i64 ((m % 65536 : Nat) : Int)] 3)) := Grow.alloc HG.out _
      have hgr : Grow w w1 := hbw.grown hgrow (by simp; omega) (fun j hj => (hown.lt j hj).1)
      refine ⟨⟨m / 65536, pre ++ [m % 65536], rfl, by omega, HS, hide hgr, hide ?_⟩, ?_⟩
      · show World.ownsRow _ _ _ _ _ _ _
        rw [List.length_append, limV_snoc]
        exact hown'
      · simp [intOf]; omega

/-- A row of numbers that can be read. -/
def readsLim (w : World) (B : Nat) (v : Value) (l : List Nat) : Prop :=
  ∃ ao cp, v = .slice ao l.length cp ∧ l.length ≤ cp ∧ ∀ i (h : i < l.length), ∃ b o, ao = some ⟨b, o, none⟩ ∧ b < B ∧ w.cell? ⟨b, o + i, none⟩ = some (.int .i64 ((l[i] : Nat) : Int))
theorem own_readsLim {w : World} {B : Nat} {v : Value} {l : List Nat} (h : ownLim w B v l) : readsLim w w.heap.size v l := by
  unfold ownLim at h
  obtain ⟨ao, cp, e⟩ := own_shape h
  rcases h.2 with ⟨rfl, h0⟩ | ⟨g, cap, cur, rfl, h1, h2, h3, h4, _⟩
  · simp only [Value.slice.injEq] at e
    obtain ⟨rfl, hl, rfl⟩ := e
    exact ⟨none, 0, by rw [← hl], by omega, fun i hi => by omega⟩
  · simp only [Value.slice.injEq] at e
    obtain ⟨rfl, _, rfl⟩ := e
    have hc := World.ownsRow.cells h (g := g) rfl
    refine ⟨_, _, rfl, by first | exact h3 | omega, fun i hi => ⟨g, 0, rfl, lt_of_block h2, ?_⟩⟩
    have := hc i (.int .i64 ((l[i] : Nat) : Int)) (by simp [limV, hi])
    rw [Addr.add_lit] at this
    exact this
def trimL (l : List Nat) : List Nat := (l.reverse.dropWhile (· == 0)).reverse
theorem trimL_zero (a : List Nat) : trimL (a ++ [0]) = trimL a := by simp [trimL]
theorem trimL_pos (a : List Nat) {x : Nat} (h : x ≠ 0) : trimL (a ++ [x]) = a ++ [x] := by
  unfold trimL
  rw [List.reverse_append, List.reverse_singleton, List.singleton_append, List.dropWhile_cons_of_neg (by simpa using h)]
  simp
theorem trimL_nil : trimL [] = [] := rfl

set_option maxRecDepth 20000 in
set_option maxHeartbeats 4000000 in
theorem trim_any (w : World) (v : Value) (l : List Nat) (B : Nat) (hr : readsLim w B v l) (hl : l.length ≤ 1000) :
    Calls Tryz.prog 89 #[v] w fun e w' => ∃ v', e = .returned v' ∧ w' = w ∧ readsLim w B v' (trimL l) := by
  obtain ⟨ao, cp, rfl, hcp, hc⟩ := hr
  have HC := hide hc
  clear hc
  go_enter Tryz.func89, Tryz.ntmps89
  go_wp2
  go_loopw [3] (fun i wr => ∃ n : Nat, n ≤ l.length ∧ i = .int .i64 n ∧ Hid (trimL (l.take n) = trimL l) ∧ wr = w) (fun i _ => (intOf i).toNat)
  case atStart => exact ⟨l.length, by omega, rfl, hide (by rw [List.take_length]), rfl⟩
  case round =>
    obtain ⟨n, hn, rfl, HT, rfl⟩ := hrel
    by_cases h0 : n = 0
    · subst h0
      have hT : trimL l = [] := by
        have := HT.out
        rw [List.take_zero, trimL_nil] at this
        exact this.symm
      have HTN := hide hT
      clear hT
      go_wp2
      go_ret
      exact ⟨_, rfl, rfl, ao, 0, by rw [HTN.out]; rfl, by rw [HTN.out]; simp, fun i hi => by rw [HTN.out] at hi; simp at hi⟩
    · obtain ⟨k, rfl⟩ : ∃ k, n = k + 1 := ⟨n - 1, by omega⟩
      obtain ⟨b, o, rfl, hb, d0⟩ := HC.out k (by omega)
      have htk : l.take (k + 1) = l.take k ++ [l[k]] := List.take_succ_eq_append_getElem (by omega)
      obtain ⟨x, HX⟩ : ∃ x, Hid (l[k] = x) := ⟨_, hide rfl⟩
      rw [HX.out] at d0 htk
      have HTK := hide htk
      clear htk
      by_cases hx : x = 0
      · subst hx
        have hT := HT.out
        rw [HTK.out, trimL_zero] at hT
        have HT2 := hide hT
        clear hT
        go_wp2
        go_roundw
        case rel => exact ⟨k, by omega, by go_num, HT2, trivial⟩
        case measure => simp [intOf]
      · have hx' : ¬ (x : Int) = 0 := by omega
        have hT := HT.out
        rw [HTK.out, trimL_pos _ hx, ← HTK.out] at hT
        have HT2 := hide hT
        clear hT hx
        go_wp2
        go_ret
        have hlk : (l.take (k + 1)).length = k + 1 := by rw [List.length_take]; omega
        rw [← HT2.out]
        refine ⟨_, rfl, rfl, some ⟨b, o, none⟩, k + 1, by rw [hlk]; rfl, by rw [hlk]; omega, fun i hi => ?_⟩
        obtain ⟨b2, o2, e2, hb2, d2⟩ := HC.out i (by omega)
        simp only [Option.some.injEq, Addr.mk.injEq] at e2
        obtain ⟨rfl, rfl, _⟩ := e2
        exact ⟨b, o, rfl, hb, by rw [List.getElem_take]; exact d2⟩
end Go.Proofs.YtndpjdmfkhjiiaaGreatDoor.Rl
