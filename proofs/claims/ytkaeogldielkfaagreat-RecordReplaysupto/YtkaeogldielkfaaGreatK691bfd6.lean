/- 1 texts in one. -/
import Derived.Test.YtkaeogldielkfaaGreatProg
import Derived.Test.YtkaeogldielkfaaGreatKabe2b5f
import Derived.Test.YtkaeogldielkfaaGreatKa96aaab
import Derived.Test.YtkaeogldielkfaaGreatK8b95b1a
import Derived.Test.YtkaeogldielkfaaGreatKa7e3600
import Derived.Test.YtkaeogldielkfaaGreatK382d20d
import Derived.Test.YtkaeogldielkfaaGreatKde4a8e2
import Derived.Test.YtkaeogldielkfaaGreatKdfef78d
import Derived.BigQuiet
import Derived.Deep.RegionHeld3
import Derived.Deep.AppendLies
set_option linter.unusedVariables false
set_option linter.unusedSimpArgs false
namespace Go.Proofs.YtkaeogldielkfaaGreat.Lb
open Go.RowKit
attribute [local go_sem] bs_size bs_toList bs_append bs_get bs_extract
theorem Tryz.info5 : (Tryz.prog.info? 5).map (fun i => (i.zero, i.size, i.bytes)) = some (some (.int .u8 0), 1, 1) := by kernel_rfl
theorem Tryz.info9 : (Tryz.prog.info? 9).map (fun i => (i.zero, i.size, i.bytes)) = some (some (.string ByteArray.empty), 1, 16) := by kernel_rfl
set_option maxRecDepth 20000 in
set_option maxHeartbeats 1000000 in
theorem escaped_any (s : List UInt8) (w : World) (hs : s.length ≤ 1000) : Calls Tryz.prog 129 #[.string (bs s)] w fun e w' => e = .returned (.string (bs (escB s))) ∧ Below w.heap.size w w' := by
  obtain ⟨i0, hi, hz0, hz1, hz2⟩ := info_parts Tryz.info5
  go_enter Tryz.func129, Tryz.ntmps129
  go_wp2
  go_loopw [3, 7] (fun v i wr => ∃ k : Nat, k ≤ s.length ∧ i = .int .i64 k ∧ wr.ownsRow w.heap.size 5 1 v (escB (s.take k)).length (bytesV (escB (s.take k))) ∧ Below w.heap.size w wr) (fun _ i _ => s.length - (intOf i).toNat)
  case atStart => exact ⟨0, by omega, rfl, World.ownsRow_nil _ _ _ _, Below.refl _ _⟩
  case round =>
    obtain ⟨k, hk, rfl, hown, hb⟩ := hrel
    have hbs := hb.size
    by_cases hlt : k < s.length
    · have hl := escB_le (s.take k)
      rw [List.length_take] at hl
      have HSn := hide (escB_take s k hlt)
      obtain ⟨E, hE⟩ : ∃ E, escB (s.take k) = E := ⟨_, rfl⟩
      rw [hE] at hown hl HSn
      clear hE
      obtain ⟨c, HC⟩ : ∃ c, Hid (s[k] = c) := ⟨_, hide rfl⟩
      have hc := c.toNat_lt
      by_cases h92 : (c.toNat : Int) = 92
      · have HF := hide (escC_sign (c := c) (.inl (by omega)))
        have h92' : ((s[k].toNat : Int) == 92) = true := by rw [HC.out]; simpa using h92
        go_wp2_with (at_builtin; refine wpList_append_own _ rfl _ _ 77 rfl w.heap.size 5 i0 (.int .u8 0) 1 1 Tryz.underlying77 hi hz0 hz1 hz2 rfl (by decide) _ E.length (bytesV E) rfl (hown.alloc _) ⟨wr.heap.size, 0, none⟩ 2 2 (bytesV [92, c]) rfl rfl (by rw [← HC.out]; exact World.news_of_block (heap_alloc_new wr _)) (bytesV_oneCell _) (by unfold maxLen; omega) (by omega) (by simp; omega) ?_; intro v' w1 hown' hgrow _; rw [← bytesV_append] at hown')
        go_roundw
        case rel => exact ⟨k + 1, by omega, by go_num, by rw [HSn.out, HC.out, HF.out, List.length_append]; exact hown', (hb.alloc hbs _).grown hgrow (by simp; omega) (fun j hj => (hown.lt j hj).1)⟩
        case measure => simp [intOf]; omega
      · have h92' : ((s[k].toNat : Int) == 92) = false := by rw [HC.out]; simpa using h92
        by_cases h34 : (c.toNat : Int) = 34
        · have HF := hide (escC_sign (c := c) (.inr (by omega)))
          have h34' : ((s[k].toNat : Int) == 34) = true := by rw [HC.out]; simpa using h34
          go_wp2_with (at_builtin; refine wpList_append_own _ rfl _ _ 77 rfl w.heap.size 5 i0 (.int .u8 0) 1 1 Tryz.underlying77 hi hz0 hz1 hz2 rfl (by decide) _ E.length (bytesV E) rfl (hown.alloc _) ⟨wr.heap.size, 0, none⟩ 2 2 (bytesV [92, c]) rfl rfl (by rw [← HC.out]; exact World.news_of_block (heap_alloc_new wr _)) (bytesV_oneCell _) (by unfold maxLen; omega) (by omega) (by simp; omega) ?_; intro v' w1 hown' hgrow _; rw [← bytesV_append] at hown')
          go_roundw
          case rel => exact ⟨k + 1, by omega, by go_num, by rw [HSn.out, HC.out, HF.out, List.length_append]; exact hown', (hb.alloc hbs _).grown hgrow (by simp; omega) (fun j hj => (hown.lt j hj).1)⟩
          case measure => simp [intOf]; omega
        · have h34' : ((s[k].toNat : Int) == 34) = false := by rw [HC.out]; simpa using h34
          by_cases h10 : (c.toNat : Int) = 10
          · have HF := hide (escC_feed (c := c) (by omega))
            have h10' : ((s[k].toNat : Int) == 10) = true := by rw [HC.out]; simpa using h10
            go_wp2_with (at_builtin; refine wpList_append_own _ rfl _ _ 77 rfl w.heap.size 5 i0 (.int .u8 0) 1 1 Tryz.underlying77 hi hz0 hz1 hz2 rfl (by decide) _ E.length (bytesV E) rfl (hown.alloc _) ⟨wr.heap.size, 0, none⟩ 2 2 (bytesV [92, 110]) rfl rfl (World.news_of_block (heap_alloc_new wr _)) (bytesV_oneCell _) (by unfold maxLen; omega) (by omega) (by simp; omega) ?_; intro v' w1 hown' hgrow _; rw [← bytesV_append] at hown')
            go_roundw
            case rel => exact ⟨k + 1, by omega, by go_num, by rw [HSn.out, HC.out, HF.out, List.length_append]; exact hown', (hb.alloc hbs _).grown hgrow (by simp; omega) (fun j hj => (hown.lt j hj).1)⟩
            case measure => simp [intOf]; omega
          · have h10' : ((s[k].toNat : Int) == 10) = false := by rw [HC.out]; simpa using h10
            have HF := hide (escC_plain (c := c) (by omega) (by omega) (by omega))
            go_wp2_with (at_builtin; refine wpList_append_own _ rfl _ _ 77 rfl w.heap.size 5 i0 (.int .u8 0) 1 1 Tryz.underlying77 hi hz0 hz1 hz2 rfl (by decide) _ E.length (bytesV E) rfl (hown.alloc _) ⟨wr.heap.size, 0, none⟩ 1 1 (bytesV [c]) rfl rfl (by rw [← HC.out]; exact World.news_of_block (heap_alloc_new wr _)) (bytesV_oneCell _) (by unfold maxLen; omega) (by omega) (by simp; omega) ?_; intro v' w1 hown' hgrow _; rw [← bytesV_append] at hown')
            go_roundw
            case rel => exact ⟨k + 1, by omega, by go_num, by rw [HSn.out, HC.out, HF.out, List.length_append]; exact hown', (hb.alloc hbs _).grown hgrow (by simp; omega) (fun j hj => (hown.lt j hj).1)⟩
            case measure => simp [intOf]; omega
    · obtain rfl : k = s.length := by omega
      rw [List.take_of_length_le (Nat.le_refl _)] at hown
      have hcv := run_bytesStr (P := Tryz.prog) Tryz.underlying77 Tryz.underlying5 Tryz.underlying9 hown
      go_wp2
      go_ret
      exact ⟨rfl, hb⟩
/-- A row of texts. -/
def txtCells (L : List (List UInt8)) : List Value := L.map fun s => .string (bs s)
theorem txtCells_snoc (L : List (List UInt8)) (s : List UInt8) : txtCells (L ++ [s]) = txtCells L ++ [.string (bs s)] := by simp [txtCells]
abbrev ownTexts (w : World) (B : Nat) (v : Value) (L : List (List UInt8)) : Prop := w.ownsRow B 9 1 v L.length (txtCells L)
theorem join_any (w : World) (B : Nat) (v : Value) (L : List (List UInt8)) (sep : List UInt8) (h : ownTexts w B v L) (hL : L.length ≤ 1000) (hs : ∀ s ∈ L, s.length ≤ 1000) (hsep : sep.length ≤ 1000) :
    Calls Tryz.prog 130 #[v, .string (bs sep)] w fun e w' => e = .returned (.string (bs (Lib.join L sep))) ∧ Below w.heap.size w w' := by
  rcases id h.2 with ⟨rfl, h0⟩ | ⟨g, cap, cur, rfl, h1, h2, h3⟩
  · have : L = [] := List.eq_nil_of_length_eq_zero h0
    subst this
    exact (Tryz.strings_Join_none none 0 (bs sep) w).mono fun e w' ⟨he, hw⟩ => ⟨he, by rw [hw]; exact Below.refl _ _⟩
  · have hc := World.ownsRow.cells h (g := g) rfl
    have e1 : (L.map bs).map (·.data.toList) = L := by
      rw [List.map_map]
      conv => rhs; rw [← List.map_id L]
      exact List.map_congr_left fun s _ => by simp [bs]
    have hj := join_len L sep
    have hl := lens_le L 1000 hs
    have hm : sep.length * L.length ≤ 1000 * 1000 := Nat.mul_le_mul hsep hL
    have hcap : L.length ≤ cap := by
      rcases h3 with h3
      omega
    have hJ := Tryz.strings_Join g 0 cap (L.map bs) (bs sep) w (fun j x hx => ?_) (lt_of_block h2) (by rw [List.length_map]; omega) (by rw [List.length_map]; exact hcap) (by rw [e1, bs_data]; omega)
    · rw [List.length_map, e1, bs_data] at hJ
      exact hJ
    · rw [List.getElem?_map] at hx
      cases hL : L[j]? with
      | none => rw [hL] at hx; simp at hx
      | some s =>
        rw [hL] at hx
        simp at hx
        subst hx
        have := hc j (.string (bs s)) (by simp [txtCells, hL])
        rw [Addr.add_lit] at this
        simpa using this
set_option maxRecDepth 20000 in
set_option maxHeartbeats 1000000 in
theorem text_any (w : World) (v : Value) (ls : List Lab) (hv : readsLabels w w.heap.size v ls) (hlen : ls.length ≤ 9223372036854775807) (hin : lensOk ls) :
    Calls Tryz.prog 111 #[v] w fun e w' => e = .returned (.tuple #[.string (bs (textAns ls)), .int .i64 (checkB ls)]) ∧ Below w.heap.size w w' := by
  obtain ⟨i0, hi, hz0, hz1, hz2⟩ := info_parts Tryz.info9
  obtain ⟨ao, cp, hvv⟩ := readsLabels_len hv
  have HV := hide hv
  have HI := hide hin
  clear hv hin
  subst hvv
  go_enter Tryz.func111, Tryz.ntmps111
  go_wp2_with fail
  refine (check_any w _ ls HV.out hlen HI.out).mono ?_
  rintro e w1 ⟨rfl, hb1⟩
  have hs1 := hb1.size
  by_cases h0 : checkB ls = 0
  · have HL : Hid (ls.length ≤ 20 ∧ ∀ x ∈ ls, x.1.length ≤ 40 ∧ x.2.length ≤ 100) := eachErr_names (checkB_zero.1 h0).1
    have HR : Hid (Rise ls) := rise_iff.2 (checkB_zero.1 h0).2
    have H0 := hide h0
    rw [h0]
    clear h0
    have h20 : ls.length ≤ 20 := HL.out.1
    go_wp2
    go_loopw [5, 6, 16] (fun x v i wr => ∃ k : Nat, k ≤ ls.length ∧ i = .int .i64 k ∧ x = .string (bs (aheadB ls k)) ∧ ownTexts wr w.heap.size v (othersB (ls.take k)) ∧ Below w.heap.size w wr) (fun _ _ i _ => ls.length - (intOf i).toNat)
    case atStart => exact ⟨0, by omega, rfl, rfl, World.ownsRow_nil _ _ _ _, hb1⟩
    case round =>
      obtain ⟨k, hk, rfl, rfl, hrow, hb⟩ := hrel
      have hbs := hb.size
      have hol := othersB_len (ls.take k)
      have hos := hide (othersB_short (l := ls.take k) (fun x hx => HL.out.2 x (List.mem_of_mem_take hx)))
      rw [List.length_take] at hol
      by_cases hlt : k < ls.length
      · obtain ⟨_, _, hev, hc0⟩ := id HV.out
        simp at hev
        obtain ⟨rfl, rfl⟩ := hev
        obtain ⟨lb, lo, rfl, hlB, c0, c1⟩ := hc0 k hlt
        have d0 := (hb.cell (p := ⟨lb, lo + k * 2, none⟩) hlB).trans c0
        have d1 := (hb.cell (p := ⟨lb, lo + k * 2 + 1, none⟩) hlB).trans c1
        clear c0 c1 hc0
        obtain ⟨hl0, hl1⟩ := HL.out.2 _ (List.getElem_mem hlt)
        by_cases he : ls[k].1 = ownN
        · have HA := hide (aheadB_own HR.out hlt he)
          have HO := hide (others_take_own ls k hlt he)
          rw [he] at d0
          obtain ⟨x, HX⟩ : ∃ x : Lab, Hid (ls[k] = x) := ⟨_, hide rfl⟩
          rw [HX.out] at d1 hl1 HA
          clear he hl0
          go_wp2_with (go_at_call 129; refine (escaped_any _ _ (by omega)).mono ?_; rintro e w2 ⟨rfl, hb2⟩)
          have hg2 : Below w.heap.size w w2 := (hb.alloc hbs _).trans (hb2.mono (by simp; omega))
          go_roundw
          case rel => exact ⟨k + 1, by omega, by go_num, by rw [HA.out], by rw [HO.out]; exact own_grow (hrow.alloc _) hb2, hg2⟩
          case measure => simp [intOf]; omega
        · have he' : (ls[k].1 == [95, 95, 110, 97, 109, 101, 95, 95]) = false := by simpa [ownN] using he
          have HA := hide (aheadB_other hlt he)
          have HO := hide (others_take ls k hlt he)
          obtain ⟨x, HX⟩ : ∃ x : Lab, Hid (ls[k] = x) := ⟨_, hide rfl⟩
          rw [HX.out] at d0 d1 hl0 hl1 he' HO
          clear he
          obtain ⟨L, HL2⟩ : ∃ L, Hid (othersB (ls.take k) = L) := ⟨_, hide rfl⟩
          rw [HL2.out] at hrow hol hos HO
          have HRow := hide hrow
          obtain ⟨vo, vc, rfl⟩ := own_shape hrow
          clear hrow
          go_wp2_with fail
          have hn0 : (wr.alloc (.cells #[.string (bs x.1), .string (bs x.2)] 107)).cell? ⟨wr.heap.size, 0, none⟩ = some (.string (bs x.1)) := by simp
          have hn1 : (wr.alloc (.cells #[.string (bs x.1), .string (bs x.2)] 107)).cell? ⟨wr.heap.size, 1, none⟩ = some (.string (bs x.2)) := by simp
          have hgx : Grow wr (wr.alloc (.cells #[.string (bs x.1), .string (bs x.2)] 107)) := (Grow.refl wr).alloc _
          have hsx : wr.heap.size < (wr.alloc (.cells #[.string (bs x.1), .string (bs x.2)] 107)).heap.size := by simp
          generalize wr.alloc (.cells #[.string (bs x.1), .string (bs x.2)] 107) = wx at hn0 hn1 hgx hsx ⊢
          have hx2 := escB_le x.2
          obtain ⟨t1, HT1⟩ : ∃ t, Hid (x.1 ++ [61, 34] = t) := ⟨_, hide rfl⟩
          obtain ⟨t2, HT2⟩ : ∃ t, Hid (t1 ++ escB x.2 = t) := ⟨_, hide rfl⟩
          have hl1' : t1.length = x.1.length + 2 := by rw [← HT1.out, List.length_append]; rfl
          have hl2' : t2.length = t1.length + (escB x.2).length := by rw [← HT2.out, List.length_append]
          have ha1 : ∀ W : World, (Op.stringOp .add (bs x.1) { data := #[61, 34] }).run Tryz.prog W = .ok (.string (bs t1)) W := fun W => by
            rw [run_string_add_sum W _ _ (by rw [bs_size]; show x.1.length + 2 ≤ _; omega), show ({ data := #[61, 34] } : ByteArray) = bs [61, 34] from rfl, bs_append, HT1.out]
          have ha2 : ∀ W : World, (Op.stringOp .add (bs t1) (bs (escB x.2))).run Tryz.prog W = .ok (.string (bs t2)) W := fun W => by
            rw [run_string_add_sum W _ _ (by rw [bs_size, bs_size]; omega), bs_append, HT2.out]
          have ha3 : ∀ W : World, (Op.stringOp .add (bs t2) { data := #[34] }).run Tryz.prog W = .ok (.string (bs (itemB x))) W := fun W => by
            rw [run_string_add_sum W _ _ (by rw [bs_size]; show _ + 1 ≤ _; omega), show ({ data := #[34] } : ByteArray) = bs [34] from rfl, bs_append, itemB, ← HT2.out, ← HT1.out, List.append_assoc, List.append_assoc]
          clear hl1' hl2'
          clear hx2
          have hne : (Value.slice vo L.length vc).ownBlock ≠ some wr.heap.size := fun e => by have := (HRow.out.lt _ e).2; omega
          go_region_held3 (fun w' => w'.cell? ⟨wr.heap.size, 0, none⟩ = some (.string (bs x.1)) ∧ w'.cell? ⟨wr.heap.size, 1, none⟩ = some (.string (bs x.2)))
            (first
              | go_keep
              | (exact ⟨(hb2.cell (by simp; omega)).trans (by simpa using hn0), (hb2.cell (by simp; omega)).trans (by simpa using hn1)⟩)
              | (exact ⟨(hgrow3.cell_far _ (by simp; omega) (fun e => hne e.symm)).trans (((Grow.alloc (Grow.refl w2) (.cells #[.string (bs (itemB x))] 9)).cell (p := ⟨wr.heap.size, 0, none⟩) (by omega)).trans k0), (hgrow3.cell_far _ (by simp; omega) (fun e => hne e.symm)).trans (((Grow.alloc (Grow.refl w2) (.cells #[.string (bs (itemB x))] 9)).cell (p := ⟨wr.heap.size, 1, none⟩) (by omega)).trans k1)⟩))
            ((first
              | (go_at_call 129; refine (escaped_any _ _ (by omega)).mono ?_; rintro e w2 ⟨rfl, hb2⟩; have hgw2 : Grow wr w2 := Grow.trans hgx ⟨hb2.os, hb2.tape, hb2.output, hb2.size, hb2.block⟩; have k0 := (hb2.cell (p := ⟨wr.heap.size, 0, none⟩) (by simp; omega)).trans (by simpa using hn0); have k1 := (hb2.cell (p := ⟨wr.heap.size, 1, none⟩) (by simp; omega)).trans (by simpa using hn1); have hsw2 : wr.heap.size < w2.heap.size := by have := hb2.size; simp at this; omega)
              | (refine step_append_lies _ (by rfl) _ _ 69 (by rfl) w.heap.size 9 i0 (.string ByteArray.empty) 1 16 Tryz.underlying69 hi hz0 hz1 hz2 rfl (by omega) (.slice vo L.length vc) L.length (txtCells L) (by rfl)
                  (own_grow HRow.out (by have h := Grow.alloc hgw2 (.cells #[.string (bs (itemB x))] 9); exact ⟨h.os, h.tape, h.output, h.size, h.block⟩))
                  ⟨w2.heap.size, 0, none⟩ 1 1 [.string (bs (itemB x))] (by rfl) (by rfl) (World.news_of_block (cs := #[.string (bs (itemB x))]) (t := 9) (fr := (0, 0)) (by exact heap_alloc_new _ _)) (by simp [Value.oneCell']) (by omega) (by unfold maxLen; omega) (by omega) (by simp; omega) (w2.heap.size + 1) (by simp) ?_; intro g3 cap3 w3 hown3 hgrow3 hat3 hlt3)))
          go_wp2
          have hcur := Grow.alloc hgw2 (.cells #[.string (bs (itemB x))] 9)
          have hbw : Below w.heap.size w (w2.alloc (.cells #[.string (bs (itemB x))] 9)) := hb.trans (hcur.mono hbs)
          have hsz2 := hbw.size
          go_roundw
          case rel => exact ⟨k + 1, by omega, by go_num, by rw [HA.out], by rw [HO.out]; show World.ownsRow _ _ _ _ _ _ _; rw [List.length_append, txtCells_snoc]; exact hown3, Below.grown ⟨hbw.os, hbw.tape, hbw.output, hbw.size, hbw.block⟩ hgrow3 hsz2 (fun j hj => (HRow.out.lt j hj).1)⟩
          case measure => simp [intOf]; omega
      · obtain rfl : k = ls.length := by omega
        rw [List.take_of_length_le (Nat.le_refl _)] at hrow hos hol
        have hal : (aheadB ls ls.length).length ≤ 200 := by
          rw [aheadB_all]
          have h1 := escB_le (valueB ls ownN)
          have h2 := valueB_le (l := ls) (n := ownN) (fun x hx => (HL.out.2 x hx).2)
          omega
        have HAh := hide (aheadB_all ls)
        generalize aheadB ls ls.length = A at hal HAh
        have HT : Hid (textB ls = if othersB ls = [] ∧ ls ≠ [] then A else A ++ ([123] ++ (Lib.join (othersB ls) [44] ++ [125]))) := by show _ = _; rw [HAh.out]; rfl
        have HLs : Hid (ls = [] ↔ ls.length = 0) := ⟨fun h => by rw [h]; rfl, List.eq_nil_of_length_eq_zero⟩
        have hjl : (Lib.join (othersB ls) [44]).length ≤ 10000 := by
          have h1 := join_len (othersB ls) [44]
          have h2 := lens_le (othersB ls) 300 hos.out
          simp at h1
          have h3 : 300 * (othersB ls).length ≤ 300 * 20 := Nat.mul_le_mul (Nat.le_refl _) (by omega)
          omega
        obtain ⟨vo, vc, rfl⟩ := own_shape hrow
        have hJ := hide (join_any wr w.heap.size (.slice vo (othersB ls).length vc) (othersB ls) [44] hrow (by omega) (fun s hs => by have := hos.out s hs; omega) (by simp))
        generalize Lib.join (othersB ls) [44] = J at hjl HT hJ
        have HO2 : Hid (othersB ls = [] ↔ (othersB ls).length = 0) := ⟨fun h => by rw [h]; rfl, List.eq_nil_of_length_eq_zero⟩
        obtain ⟨n, HN⟩ : ∃ n, Hid ((othersB ls).length = n) := ⟨_, hide rfl⟩
        rw [HN.out] at hol HO2
        clear hrow
        rw [HN.out, show bs [44] = ({ data := #[44] } : ByteArray) from rfl] at hJ
        rw [HN.out]
        by_cases hc : n = 0 ∧ 0 < ls.length
        · obtain ⟨hn0, hl0⟩ := hc
          have hl0' : (0 : Int) < ls.length := by omega
          subst hn0
          go_wp2
          go_ret2
          exact ⟨ret2 (vstr (by rw [textAns_ok H0.out, HT.out, if_pos ⟨HO2.out.2 (by trivial), fun e => by have := HLs.out.1 e; omega⟩])) (vint (by rw [H0.out]; rfl)), hb⟩
        · have HTn : Hid (textB ls = A ++ ([123] ++ (J ++ [125]))) := by
            show _ = _
            rw [HT.out, if_neg]
            rintro ⟨h1, h2⟩
            exact hc ⟨HO2.out.1 h1, by have : ¬ ls.length = 0 := fun e => h2 (HLs.out.2 e); omega⟩
          by_cases hn0 : n = 0
          · have hl0' : ¬ (0 : Int) < ls.length := by omega
            subst hn0
            clear hc
            go_wp2_with (go_at_call 130; refine hJ.out.mono ?_; rintro e w2 ⟨rfl, hb2⟩)
            go_ret2
            exact ⟨ret2 (vstr (by rw [textAns_ok H0.out, HTn.out]; simp [bs_data])) (vint (by rw [H0.out]; rfl)), hb.trans (hb2.mono hbs)⟩
          · have hn0' : ((n : Int) == 0) = false := by simp; omega
            clear hc
            go_wp2_with (go_at_call 130; refine hJ.out.mono ?_; rintro e w2 ⟨rfl, hb2⟩)
            go_ret2
            exact ⟨ret2 (vstr (by rw [textAns_ok H0.out, HTn.out]; simp [bs_data])) (vint (by rw [H0.out]; rfl)), hb.trans (hb2.mono hbs)⟩
  · have H0 := hide h0
    have hne : ((checkB ls : Int) != 0) = true := by simpa using h0
    clear h0
    go_wp2
    go_ret2
    exact ⟨ret2 (vstr (by rw [textAns_no H0.out])) rfl, hb1⟩
end Go.Proofs.YtkaeogldielkfaaGreat.Lb
