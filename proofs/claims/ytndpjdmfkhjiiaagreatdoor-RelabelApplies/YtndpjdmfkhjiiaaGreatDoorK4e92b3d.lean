/- 2 texts in one. -/
import Derived.Test.YtndpjdmfkhjiiaaGreatDoorProg
import Derived.Test.YtndpjdmfkhjiiaaGreatDoorK06d19db
import Derived.Test.YtndpjdmfkhjiiaaGreatDoorKb583056
import Derived.Test.YtndpjdmfkhjiiaaGreatDoorKa585d5f
import Derived.Test.YtndpjdmfkhjiiaaGreatDoorKe772336
import Derived.Test.YtndpjdmfkhjiiaaGreatDoorKab34d13
import Derived.Test.YtndpjdmfkhjiiaaGreatDoorK88be40b
import Derived.Test.YtndpjdmfkhjiiaaGreatDoorK1478fe8
import Derived.BigQuiet
import Derived.Deep.RegionHeld3
import Derived.Deep.AppendLies
set_option linter.unusedVariables false
set_option linter.unusedSimpArgs false
namespace Go.Proofs.YtndpjdmfkhjiiaaGreatDoor.Lb
open Go.RowKit
attribute [local go_sem] bs_size bs_toList bs_append bs_get bs_extract
theorem Tryz.info5 : (Tryz.prog.info? 5).map (fun i => (i.zero, i.size, i.bytes)) = some (some (.int .u8 0), 1, 1) := by kernel_rfl
set_option maxRecDepth 20000 in
set_option maxHeartbeats 1000000 in
theorem escaped_any (s : List UInt8) (w : World) (hs : s.length ≤ 1000) : Calls Tryz.prog 84 #[.string (bs s)] w fun e w' => e = .returned (.string (bs (escB s))) ∧ Below w.heap.size w w' := by
 obtain ⟨i0, hi, hz0, hz1, hz2⟩ := info_parts Tryz.info5
 go_enter Tryz.func84, Tryz.ntmps84
 go_wp2
 go_loopw [3, 7] (fun v i wr => ∃ k : Nat, k ≤ s.length ∧ i = .int .i64 k ∧ wr.ownsRow w.heap.size 5 1 v (escB (s.take k)).length (bytesV (escB (s.take k))) ∧ Below w.heap.size w wr) (fun _ i _ => s.length - (intOf i).toNat)
 case atStart => exact ⟨0, by omega, rfl, World.ownsRow_nil _ _ _ _, Below.refl _ _⟩
 case round =>
  obtain ⟨k, hk, rfl, hown, hb⟩ := hrel
  have hbs := hb.size
  by_cases hlt : k < s.length
  ·
   have hl := escB_le (s.take k)
   rw [List.length_take] at hl
   have HSn := hide (escB_take s k hlt)
   obtain ⟨E, hE⟩ : ∃ E, escB (s.take k) = E := ⟨_, rfl⟩
   rw [hE] at hown hl HSn
   clear hE
   obtain ⟨c, HC⟩ : ∃ c, Hid (s[k] = c) := ⟨_, hide rfl⟩
   have hc := c.toNat_lt
   by_cases h92 : (c.toNat : Int) = 92
   ·
    have HF := hide (escC_sign (c := c) (.inl (by omega)))
    have h92' : ((s[k].toNat : Int) == 92) = true := by rw [HC.out]; simpa using h92
    go_wp2_with (at_builtin; refine wpList_append_own _ rfl _ _ 89 rfl w.heap.size 5 i0 (.int .u8 0) 1 1 Tryz.underlying89 hi hz0 hz1 hz2 rfl (by decide) _ E.length (bytesV E) rfl (hown.alloc _) ⟨wr.heap.size, 0, none⟩ 2 2 (bytesV [92, c]) rfl rfl (by rw [← HC.out]; exact World.news_of_block (heap_alloc_new wr _)) (bytesV_oneCell _) (by unfold maxLen; omega) (by omega) (by simp; omega) ?_; intro v' w1 hown' hgrow _; rw [← bytesV_append] at hown')
    go_roundw
    case rel => exact ⟨k + 1, by omega, by go_num, by rw [HSn.out, HC.out, HF.out, List.length_append]; exact hown', (hb.alloc hbs _).grown hgrow (by simp; omega) (fun j hj => (hown.lt j hj).1)⟩
    case measure => simp [intOf]; omega
   ·
    have h92' : ((s[k].toNat : Int) == 92) = false := by rw [HC.out]; simpa using h92
    by_cases h34 : (c.toNat : Int) = 34
    ·
     have HF := hide (escC_sign (c := c) (.inr (by omega)))
     have h34' : ((s[k].toNat : Int) == 34) = true := by rw [HC.out]; simpa using h34
     go_wp2_with (at_builtin; refine wpList_append_own _ rfl _ _ 89 rfl w.heap.size 5 i0 (.int .u8 0) 1 1 Tryz.underlying89 hi hz0 hz1 hz2 rfl (by decide) _ E.length (bytesV E) rfl (hown.alloc _) ⟨wr.heap.size, 0, none⟩ 2 2 (bytesV [92, c]) rfl rfl (by rw [← HC.out]; exact World.news_of_block (heap_alloc_new wr _)) (bytesV_oneCell _) (by unfold maxLen; omega) (by omega) (by simp; omega) ?_; intro v' w1 hown' hgrow _; rw [← bytesV_append] at hown')
     go_roundw
     case rel => exact ⟨k + 1, by omega, by go_num, by rw [HSn.out, HC.out, HF.out, List.length_append]; exact hown', (hb.alloc hbs _).grown hgrow (by simp; omega) (fun j hj => (hown.lt j hj).1)⟩
     case measure => simp [intOf]; omega
    ·
     have h34' : ((s[k].toNat : Int) == 34) = false := by rw [HC.out]; simpa using h34
     by_cases h10 : (c.toNat : Int) = 10
     ·
      have HF := hide (escC_feed (c := c) (by omega))
      have h10' : ((s[k].toNat : Int) == 10) = true := by rw [HC.out]; simpa using h10
      go_wp2_with (at_builtin; refine wpList_append_own _ rfl _ _ 89 rfl w.heap.size 5 i0 (.int .u8 0) 1 1 Tryz.underlying89 hi hz0 hz1 hz2 rfl (by decide) _ E.length (bytesV E) rfl (hown.alloc _) ⟨wr.heap.size, 0, none⟩ 2 2 (bytesV [92, 110]) rfl rfl (World.news_of_block (heap_alloc_new wr _)) (bytesV_oneCell _) (by unfold maxLen; omega) (by omega) (by simp; omega) ?_; intro v' w1 hown' hgrow _; rw [← bytesV_append] at hown')
      go_roundw
      case rel => exact ⟨k + 1, by omega, by go_num, by rw [HSn.out, HC.out, HF.out, List.length_append]; exact hown', (hb.alloc hbs _).grown hgrow (by simp; omega) (fun j hj => (hown.lt j hj).1)⟩
      case measure => simp [intOf]; omega
     ·
      have h10' : ((s[k].toNat : Int) == 10) = false := by rw [HC.out]; simpa using h10
      have HF := hide (escC_plain (c := c) (by omega) (by omega) (by omega))
      go_wp2_with (at_builtin; refine wpList_append_own _ rfl _ _ 89 rfl w.heap.size 5 i0 (.int .u8 0) 1 1 Tryz.underlying89 hi hz0 hz1 hz2 rfl (by decide) _ E.length (bytesV E) rfl (hown.alloc _) ⟨wr.heap.size, 0, none⟩ 1 1 (bytesV [c]) rfl rfl (by rw [← HC.out]; exact World.news_of_block (heap_alloc_new wr _)) (bytesV_oneCell _) (by unfold maxLen; omega) (by omega) (by simp; omega) ?_; intro v' w1 hown' hgrow _; rw [← bytesV_append] at hown')
      go_roundw
      case rel => exact ⟨k + 1, by omega, by go_num, by rw [HSn.out, HC.out, HF.out, List.length_append]; exact hown', (hb.alloc hbs _).grown hgrow (by simp; omega) (fun j hj => (hown.lt j hj).1)⟩
      case measure => simp [intOf]; omega
  ·
   obtain rfl : k = s.length := by omega
   rw [List.take_of_length_le (Nat.le_refl _)] at hown
   have hcv := run_bytesStr (P := Tryz.prog) Tryz.underlying89 Tryz.underlying5 Tryz.underlying9 hown
   go_wp2
   go_ret
   exact ⟨rfl, hb⟩
def txtCells (L : List (List UInt8)) : List Value := L.map fun s => .string (bs s)
abbrev ownTexts (w : World) (B : Nat) (v : Value) (L : List (List UInt8)) : Prop := w.ownsRow B 9 1 v L.length (txtCells L)
theorem join_any (w : World) (B : Nat) (v : Value) (L : List (List UInt8)) (sep : List UInt8) (h : ownTexts w B v L) (hL : L.length ≤ 1000) (hs : ∀ s ∈ L, s.length ≤ 1000) (hsep : sep.length ≤ 1000) :
  Calls Tryz.prog 76 #[v, .string (bs sep)] w fun e w' => e = .returned (.string (bs (Lib.join L sep))) ∧ Below w.heap.size w w' := by
 rcases id h.2 with ⟨rfl, h0⟩ | ⟨g, cap, cur, rfl, h1, h2, h3⟩
 ·
  have : L = [] := List.eq_nil_of_length_eq_zero h0
  subst this
  exact (Tryz.strings_Join_none none 0 (bs sep) w).mono fun e w' ⟨he, hw⟩ => ⟨he, by rw [hw]; exact Below.refl _ _⟩
 ·
  have hc := World.ownsRow.cells h (g := g) rfl
  have e1 : (L.map bs).map (·.data.toList) = L := by
   rw [List.map_map]
   conv => rhs; rw [← List.map_id L]
   exact List.map_congr_left fun s _ => by simp [bs]
  have hj := join_len L sep
  have hl := lens_le L 1000 hs
  have hm : sep.length * L.length ≤ 1000 * 1000 := Nat.mul_le_mul hsep hL
  have hcap : L.length ≤ cap := by
   rcases h3 with h3
   omega
  have hJ := Tryz.strings_Join g 0 cap (L.map bs) (bs sep) w (fun j x hx => ?_) (lt_of_block h2) (by rw [List.length_map]; omega) (by rw [List.length_map]; exact hcap) (by rw [e1, bs_data]; omega)
  ·
   rw [List.length_map, e1, bs_data] at hJ
   exact hJ
  ·
   rw [List.getElem?_map] at hx
   cases hL : L[j]? with
   | none => rw [hL] at hx; simp at hx
   | some s =>
    rw [hL] at hx
    simp at hx
    subst hx
    have := hc j (.string (bs s)) (by simp [txtCells, hL])
    rw [Addr.add_lit] at this
    simpa using this
theorem four_cells {w : World} {b : Nat} {x y z u : Value} {t : TypeId} (h : w.heap[b]? = some (.cells #[x, y, z, u] t (0, 0))) : w.cell? ⟨b, 0, none⟩ = some x ∧ w.cell? ⟨b, 1, none⟩ = some y ∧ w.cell? ⟨b, 2, none⟩ = some z ∧ w.cell? ⟨b, 3, none⟩ = some u := by simp [World.cell?, h]
end Go.Proofs.YtndpjdmfkhjiiaaGreatDoor.Lb
