/- 1 texts in one. -/
import Derived.Test.YtkaeogldielkfaaGreatProg
import Derived.Test.YtkaeogldielkfaaGreatK5674b3b
import Derived.Deep.QuietTactic
import Derived.BigQuiet
set_option linter.unusedVariables false
set_option linter.unusedSimpArgs false
namespace Go.Proofs.YtkaeogldielkfaaGreat.Lg
open Go.RowKit
attribute [local go_sem] bs_size bs_toList bs_append bs_get bs_extract
theorem Tryz.infoT : (Tryz.prog.info? 9).map (fun i => (i.zero, i.size, i.bytes)) = some (some (.string ByteArray.empty), 1, 16) := by kernel_rfl
def strsV (L : List (List UInt8)) : List Value := L.map fun s => .string (bs s)
theorem strsV_snoc (L : List (List UInt8)) (s : List UInt8) : strsV (L ++ [s]) = strsV L ++ [.string (bs s)] := by simp [strsV]
abbrev ownStrs (w : World) (B : Nat) (v : Value) (L : List (List UInt8)) : Prop := w.ownsRow B 9 1 v L.length (strsV L)
theorem cell_keepL {w w' : World} {b o : Nat} (h : w'.heap[b]? = w.heap[b]?) : w'.cell? ⟨b, o, none⟩ = w.cell? ⟨b, o, none⟩ := by simp [World.cell?, h]
/-- Texts that can be read. -/
def readsStrs (w : World) (B : Nat) (v : Value) (gs : List (List UInt8)) : Prop :=
  ∃ ao cp, v = .slice ao gs.length cp ∧ ∀ i (h : i < gs.length), ∃ b o, ao = some ⟨b, o, none⟩ ∧ b < B ∧ w.cell? ⟨b, o + i, none⟩ = some (.string (bs gs[i]))
theorem readsStrs.keep {w w' : World} {B : Nat} {v : Value} {gs : List (List UInt8)} (h : readsStrs w B v gs) (g : Below B w w') : readsStrs w' B v gs := by
  obtain ⟨ao, cp, hv, h⟩ := h
  refine ⟨ao, cp, hv, fun i hi => ?_⟩
  obtain ⟨b, o, h1, h2, h3⟩ := h i hi
  exact ⟨b, o, h1, h2, (cell_keepL (g.block b h2)).trans h3⟩
theorem readsStrs.more {w : World} {B B' : Nat} {v : Value} {gs : List (List UInt8)} (h : readsStrs w B v gs) (hB : B ≤ B') : readsStrs w B' v gs := by
  obtain ⟨ao, cp, hv, h⟩ := h
  refine ⟨ao, cp, hv, fun i hi => ?_⟩
  obtain ⟨b, o, h1, h2, h3⟩ := h i hi
  exact ⟨b, o, h1, by omega, h3⟩
theorem readsStrs_own {w : World} {B : Nat} {v : Value} {gs : List (List UInt8)} (h : ownStrs w B v gs) : readsStrs w w.heap.size v gs := by
  obtain ⟨ao, cp, hv⟩ := own_shape h
  subst hv
  refine ⟨ao, cp, rfl, fun i hi => ?_⟩
  rcases h.2 with ⟨_, h0⟩ | ⟨b, cap, cur, e1, _, e3, _⟩
  · omega
  · have hlt := lt_of_block e3
    have e1' := e1
    simp at e1'
    obtain ⟨rfl, rfl⟩ := e1'
    have := World.ownsRow.cells h (g := b) rfl i (.string (bs gs[i])) (by simp [strsV, hi])
    rw [Addr.add_lit] at this
    exact ⟨b, 0, rfl, hlt, by simpa using this⟩
/-- A text more, in a row that a call owns: as the walk has it. -/
theorem append_strL {W : World} {v : Value} {ops : Array Oper} {rest : List Oper} {o : Oper} {a : Act} {Q : Exit → Act → World → Prop} (hgd : o.guard = none) (s x : Operand)
    (ho : o.op = .call { callee := .builtin .append, args := #[s, x], argTypes := #[69, 69] })
    (base : Nat) (L : List (List UInt8)) (c : List UInt8) (hs : a.eval s = v) (hown : ownStrs W base v L) (hx : a.eval x = .slice (some ⟨W.heap.size, 0, none⟩) 1 1)
    (hlen : L.length ≤ 100000000) (hbase : base ≤ W.heap.size)
    (h : ∀ ao cp n w', Hid (n = (L ++ [c]).length) → n ≤ 100000001 → ownStrs w' base (.slice ao n cp) (L ++ [c]) → W.grownBy w' v.ownBlock → Below base W w' → wpList Tryz.prog ops Q rest (a.put o.dst (.slice ao n cp)) w') :
    wpList Tryz.prog ops Q (o :: rest) a (W.alloc (.cells #[.string (bs c)] 9)) := by
  obtain ⟨i0, hi0, hz0, hz1, hz2⟩ := info_parts Tryz.infoT
  have hb2 : Below base W (W.alloc (.cells #[.string (bs c)] 9)) := (Below.refl _ _).alloc hbase _
  have hg2 : W.grownBy (W.alloc (.cells #[.string (bs c)] 9)) v.ownBlock := ⟨rfl, rfl, rfl, by simp, fun k hk _ => Below.heap_alloc _ _ _ hk⟩
  have hnew := heap_alloc_new W (.cells #[.string (bs c)] 9)
  have hsz := hb2.size
  have hown' := World.ownsRow.alloc hown (.cells #[.string (bs c)] 9)
  generalize (W.alloc (.cells #[.string (bs c)] 9)) = V at *
  refine wpList_append_own _ hgd s x 69 ho base 9 i0 (.string ByteArray.empty) 1 16 Tryz.underlying69 hi0 hz0 hz1 hz2 rfl (by omega) v L.length (strsV L) hs hown' ⟨W.heap.size, 0, none⟩ 1 1 [.string (bs c)] hx rfl (fun j u hu => by
    match j, hu with
    | 0, hu =>
      simp at hu
      subst hu
      rw [Addr.add_lit]
      simp [World.cell?, hnew]) (by simp [Value.oneCell']) (by unfold maxLen; omega) (by omega) (by omega) ?_
  intro v' w' hown2 hgrow _
  rw [← strsV_snoc] at hown2
  have hl : (L ++ [c]).length = L.length + 1 := by simp
  rw [← hl] at hown2
  obtain ⟨ao, cp, rfl⟩ := own_shape hown2
  exact h ao cp _ w' (hide rfl) (by rw [hl]; omega) hown2 ⟨hgrow.os.trans hg2.os, hgrow.tape.trans hg2.tape, hgrow.output.trans hg2.output, Nat.le_trans hg2.size hgrow.size, fun i hi hn => (hgrow.block i (Nat.lt_of_lt_of_le hi hg2.size) hn).trans (hg2.block i hi hn)⟩ (hb2.grown hgrow (by omega) (fun k hk => (World.ownsRow.lt hown' k hk).1))
set_option maxRecDepth 20000 in
set_option maxHeartbeats 1000000 in
theorem sameTexts_any (w : World) (v1 v2 : Value) (a b : List (List UInt8)) (h1 : readsStrs w w.heap.size v1 a) (h2 : readsStrs w w.heap.size v2 b) (ha : a.length ≤ 9223372036854775807) (hb : b.length ≤ 9223372036854775807) :
    Calls Tryz.prog 42 #[v1, v2] w fun e w' => e = .returned (.bool (decide (a = b))) ∧ ∃ n, w' = w.drewN n := by
  obtain ⟨ao, ac, rfl, hc1⟩ := h1
  obtain ⟨bo, bc, rfl, hc2⟩ := h2
  have H1 := hide hc1
  have H2 := hide hc2
  clear hc1 hc2
  by_cases hl : a.length = b.length
  · have HL := hide hl
    have hlb : ((a.length : Int) != b.length) = false := by simp [hl]
    clear hl
    go_enter Tryz.func42, Tryz.ntmps42
    go_wp2
    go_loopw [5] (fun v wr => ∃ k : Nat, k ≤ a.length ∧ v = .int .i64 k ∧ (∃ n, wr = w.drewN n) ∧ Hid (a.take k = b.take k)) (fun v _ => a.length - (intOf v).toNat)
    case atStart => exact ⟨0, by omega, rfl, ⟨0, rfl⟩, hide rfl⟩
    case round =>
      obtain ⟨k, hk, rfl, ⟨n, rfl⟩, HT⟩ := hrel
      by_cases hlt : k < a.length
      · have hltb : k < b.length := by rw [← HL.out]; exact hlt
        have hk1 : (k : Int) < a.length := by omega
        have hk2 : (k : Int) < b.length := by omega
        obtain ⟨p, po, rfl, hp, hcp⟩ := H1.out k hlt
        obtain ⟨q, qo, rfl, hq, hcq⟩ := H2.out k hltb
        obtain ⟨x, hx⟩ : ∃ x, a[k] = x := ⟨_, rfl⟩
        obtain ⟨y, hy⟩ : ∃ y, b[k] = y := ⟨_, rfl⟩
        rw [hx] at hcp
        rw [hy] at hcq
        have HX : Hid (a[k]? = some x) := hide (by rw [List.getElem?_eq_getElem hlt, hx])
        have HY : Hid (b[k]? = some y) := hide (by rw [List.getElem?_eq_getElem hltb, hy])
        have dcp : (w.drewN n).cell? ⟨p, po + k, none⟩ = some (.string (bs x)) := hcp
        have dcq : (w.drewN n).cell? ⟨q, qo + k, none⟩ = some (.string (bs y)) := hcq
        by_cases he : x = y
        · subst he
          have HT2 : Hid (a.take (k + 1) = b.take (k + 1)) := by
            show _ = _
            rw [List.take_add_one, List.take_add_one, HT.out, HX.out, HY.out]
          clear hx hy
          go_wp2
          go_quiet (fail)
          go_wp2
          refine ⟨⟨k + 1, by omega, by go_num, ⟨_, rfl⟩, HT2⟩, ?_⟩
          simp [intOf]; omega
        · have hne : (x != y) = true := by simpa using he
          have hne2 : (x == y) = false := by simpa using he
          have HD : Hid (decide (a = b) = false) := by
            show _ = _
            simp only [decide_eq_false_iff_not]
            rintro rfl
            have h1 := HX.out
            rw [HY.out] at h1
            exact he (Option.some.inj h1).symm
          clear hx hy he
          go_wp2
          go_quiet (fail)
          go_wp2
          go_ret
          exact ⟨ret_bool HD.out.symm, _, World.drewN_drewN _ _ _⟩
      · obtain rfl : k = a.length := by omega
        have hT := HT.out
        rw [List.take_length, List.take_of_length_le (by rw [HL.out]; exact Nat.le_refl _)] at hT
        have HD : Hid (decide (a = b) = true) := hide (by simpa using hT)
        clear hT
        go_wp2
        go_ret
        exact ⟨ret_bool HD.out.symm, n, rfl⟩
  · have HD : Hid (decide (a = b) = false) := by
      show _ = _
      simp only [decide_eq_false_iff_not]
      rintro rfl
      exact hl rfl
    have hlb : ((a.length : Int) != b.length) = true := by simp; omega
    go_enter Tryz.func42, Tryz.ntmps42
    go_wp2
    go_ret
    exact ⟨ret_bool HD.out.symm, 0, rfl⟩
end Go.Proofs.YtkaeogldielkfaaGreat.Lg
