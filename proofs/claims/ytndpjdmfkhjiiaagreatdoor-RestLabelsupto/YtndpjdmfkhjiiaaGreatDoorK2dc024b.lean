/- 4 texts in one. -/
import Derived.Laws.OwnMore
import Derived.Test.YtndpjdmfkhjiiaaGreatDoorProg
import Derived.Test.YtndpjdmfkhjiiaaGreatDoorK97fdc06
import Derived.Test.YtndpjdmfkhjiiaaGreatDoorK309f1d1
import Derived.Test.YtndpjdmfkhjiiaaGreatDoorKbff346a
import Derived.Test.YtndpjdmfkhjiiaaGreatDoorK58b8031
import Derived.BigQuiet
import Derived.Test.YtndpjdmfkhjiiaaGreatDoorK88846a0
import Derived.Test.YtndpjdmfkhjiiaaGreatDoorK37bba2b
import Derived.Test.YtndpjdmfkhjiiaaGreatDoorK6994baa
import Derived.Test.YtndpjdmfkhjiiaaGreatDoorK395e834
import Derived.Test.YtndpjdmfkhjiiaaGreatDoorK1f74ead
import Derived.Test.YtndpjdmfkhjiiaaGreatDoorKac5e9b6
import Derived.Test.YtndpjdmfkhjiiaaGreatDoorKbd7ef7d
import Derived.Test.YtndpjdmfkhjiiaaGreatDoorKdd2361c
import Derived.Test.YtndpjdmfkhjiiaaGreatDoorKb1eef0b
import Derived.Test.YtndpjdmfkhjiiaaGreatDoorKbc2f978
import Derived.Test.YtndpjdmfkhjiiaaGreatDoorK0936bd7
import Derived.Test.YtndpjdmfkhjiiaaGreatDoorKa9444aa
import Derived.Test.YtndpjdmfkhjiiaaGreatDoorK2069ade
import Derived.Test.YtndpjdmfkhjiiaaGreatDoorKeb2af47
import Derived.BigFrame
import Derived.Test.YtndpjdmfkhjiiaaGreatDoorK13c6859
import Derived.Test.YtndpjdmfkhjiiaaGreatDoorK4291658
import Derived.Test.YtndpjdmfkhjiiaaGreatDoorK2f85f2e
import Derived.Test.YtndpjdmfkhjiiaaGreatDoorK8903910
import Derived.Test.YtndpjdmfkhjiiaaGreatDoorK49d1723
import Derived.Test.YtndpjdmfkhjiiaaGreatDoorK0e131d8
import Derived.Test.YtndpjdmfkhjiiaaGreatDoorKa2d19b0
import Derived.Test.YtndpjdmfkhjiiaaGreatDoorKb8b36ab
import Derived.Test.YtndpjdmfkhjiiaaGreatDoorK36433a5
import Derived.Test.YtndpjdmfkhjiiaaGreatDoorK9cc7e09
import Derived.Test.YtndpjdmfkhjiiaaGreatDoorKea5d2ac
import Derived.Test.YtndpjdmfkhjiiaaGreatDoorK8a35c84
import Derived.Test.YtndpjdmfkhjiiaaGreatDoorK8351dc7
import Derived.Test.YtndpjdmfkhjiiaaGreatDoorK6416f58
set_option linter.unusedVariables false
set_option linter.unusedSimpArgs false
namespace Go.Proofs.YtndpjdmfkhjiiaaGreatDoor.Rl
open Go.RowKit Lb
attribute [local go_sem] bs_size bs_toList bs_append bs_get bs_extract
/-- What ApplyOf's call answers. -/
def OfPost (R : List Lab × Bool × Nat) (e : Ending) (w' : World) : Prop := ∃ mo n mc, e = .returned (.tuple #[.slice mo n mc, .bool R.2.1, .int .i64 R.2.2]) ∧ readsLabels w' w'.heap.size (.slice mo n mc) R.1
theorem reads_none (w : World) (B : Nat) : readsLabels w B (.slice none 0 0) [] := ⟨none, 0, rfl, fun i h => absurd h (by simp)⟩
theorem OfPost.none {R : List Lab × Bool × Nat} {n : Nat} {w : World} (h : R = ([], false, n)) : OfPost R (.returned (.tuple #[.slice none 0 0, .bool false, .int .i64 n])) w := by
  subst h
  exact ⟨_, _, _, rfl, reads_none _ _⟩
theorem OfPost.some {n : Nat} {R : List Lab × Bool × Nat} {mo : Option Addr} {mc : Nat} {l : List Lab} {w : World} (h : R = (l, true, 0)) (ho : readsLabels w w.heap.size (.slice mo n mc) l) : OfPost R (.returned (.tuple #[.slice mo n mc, .bool true, .int .i64 0])) w := by
  subst h
  exact ⟨_, _, _, rfl, ho⟩
theorem reads_up {w w' : World} {v : Value} {l : List Lab} (h : readsLabels w w.heap.size v l) (hg : Grow w w') : readsLabels w' w'.heap.size v l := readsLabels_mono (readsLabels_below h hg) hg.size
theorem apply_small (ls : List Lab) (rs : List Rul) : (applyB ls rs).1.length ≤ 20 := by
  rcases apply_shape ls rs with ⟨n, _, h⟩ | ⟨h0, h1, h | ⟨l, h⟩⟩
  · rw [h]; simp
  · rw [h]; simp
  · rw [h.1]
    exact (right_small h.2).1
set_option maxRecDepth 20000 in
set_option maxHeartbeats 2000000 in
theorem twin_any (w : World) (v : Value) (ls : List Lab) (h : readsLabels w w.heap.size v ls) (hl : ls.length ≤ 1500000) :
    Calls Tryz.prog 24 #[v] w fun e w' => ∃ ao cp, e = .returned (.slice ao ls.length cp) ∧ ownLabels w' w.heap.size (.slice ao ls.length cp) ls ∧ Grow w w' := by
  obtain ⟨W, HW⟩ : ∃ W, Hid (W = w.alloc (.cells #[] 39)) := ⟨_, hide rfl⟩
  have gW : Grow w W := by rw [HW.out]; exact (Grow.refl _).alloc _
  have hlit : W.ownsRow w.heap.size 39 2 (.slice (some ⟨w.heap.size, 0, none⟩) 0 0) 0 (labCells []) := by rw [HW.out]; exact World.ownsRow_lit w #[] 0 (Nat.le_refl _) (by decide) rfl
  have HO : Hid (ownLabels W w.heap.size (.slice (some ⟨w.heap.size, 0, none⟩) 0 0) []) := hide hlit
  have HR := hide (reads_up h gW)
  have HG := hide gW
  have hs := gW.size
  obtain ⟨lo, lc, rfl⟩ := readsLabels_len h
  clear hlit gW h
  rw [HW.out] at HO HR hs
  go_enter Tryz.func24, Tryz.ntmps24
  go_wp2_with (at_builtin; refine append_labels (by rfl) _ _ rfl w.heap.size _ 0 ls.length ls.length _ _ [] ls rfl rfl rfl rfl (by omega) HO.out HR.out (by omega) hs ?_; intro o2 p2 w2 hown2 hb2; rw [← HW.out] at hb2)
  go_ret
  exact ⟨o2, p2, rfl, hown2, Below.trans HG.out hb2⟩
/-- Nothing but the block of a row is written. -/
def Spoilt (v : Value) (w w' : World) : Prop := KB (fun k => v.ownBlock = some k) w w' ∧ w'.heap.size = w.heap.size
theorem Spoilt.refl (v : Value) (w : World) : Spoilt v w w := ⟨KB.refl _ _, rfl⟩
theorem Spoilt.trans {v : Value} {a b c : World} (h : Spoilt v a b) (k : Spoilt v b c) : Spoilt v a c := ⟨h.1.trans k.1, k.2.trans h.2⟩
theorem Spoilt.set {v : Value} {w : World} {g : Nat} (h : v.ownBlock = some g) (i : Nat) (u : Value) : Spoilt v w (w.setCell ⟨g, i, none⟩ u) :=
  ⟨⟨rfl, rfl, rfl, by simp [World.setCell], fun k hk hn => Below.heap_setCell _ _ _ _ (by show k ≠ g; rintro rfl; exact hn h)⟩, by simp [World.setCell]⟩
/-- A row that lies in another block stays. -/
theorem Spoilt.keep {v x : Value} {w w' : World} {B e size n : Nat} {xs : List Value} (h : Spoilt v w w') (k : w.ownsRow B e size x n xs) (hne : ∀ g, x.ownBlock = some g → v.ownBlock ≠ some g) : w'.ownsRow B e size x n xs :=
  own_keep k fun g hg => h.1.block g (k.lt g hg).2 (hne g hg)
theorem Spoilt.below {v : Value} {w w' : World} {B : Nat} (h : Spoilt v w w') (hB : ∀ g, v.ownBlock = some g → B ≤ g) (hs : B ≤ w.heap.size) : Below B w w' :=
  ⟨h.1.os, h.1.tape, h.1.output, h.1.size, fun k hk => h.1.block k (by omega) fun e => by have := hB k e; omega⟩
set_option maxRecDepth 20000 in
set_option maxHeartbeats 2000000 in
theorem spoil_any (w : World) (B : Nat) (v : Value) (ls : List Lab) (h : ownLabels w B v ls) (hl : ls.length ≤ 1500000) :
    Calls Tryz.prog 28 #[v] w fun e w' => e = .returned (.tuple #[]) ∧ Spoilt v w w' := by
  obtain ⟨n, hn⟩ : ∃ n, ls.length = n := ⟨_, rfl⟩
  have hown : w.ownsRow B 39 2 v n (labCells ls) := by rw [← hn]; exact h
  obtain ⟨ao, cp, rfl⟩ := own_shape hown
  have HO := hide hown
  rw [hn] at hl
  clear h hown hn
  go_enter Tryz.func28, Tryz.ntmps28
  go_wp2
  go_loopw [2] (fun i wr => ∃ (k : Nat) (xs : List Value), k ≤ n ∧ i = .int .i64 k ∧ Hid (wr.ownsRow B 39 2 (.slice ao n cp) n xs) ∧ Hid (Spoilt (.slice ao n cp) w wr)) (fun i _ => n - (intOf i).toNat)
  case atStart => exact ⟨0, _, by omega, rfl, HO, hide (Spoilt.refl _ _)⟩
  case round =>
    obtain ⟨k, xs, hk, rfl, HX, HS⟩ := hrel
    by_cases hlt : k < n
    · have hx := HX.out
      have hxl : xs.length = n * 2 := own_len hx
      obtain ⟨g, cp', hv', hB1⟩ := own_block hx (by omega)
      simp only [Value.slice.injEq] at hv'
      obtain ⟨rfl, -, rfl⟩ := hv'
      obtain ⟨u0, hu0⟩ : ∃ u, xs[k * 2]? = some u := ⟨_, List.getElem?_eq_getElem (by omega)⟩
      obtain ⟨u1, hu1⟩ : ∃ u, xs[k * 2 + 1]? = some u := ⟨_, List.getElem?_eq_getElem (by omega)⟩
      have d0 : wr.cell? ⟨g, k * 2, none⟩ = some u0 := own_cell hx hu0
      have d1 : wr.cell? ⟨g, k * 2 + 1, none⟩ = some u1 := own_cell hx hu1
      have z0 : wr.frozen? ⟨g, k * 2, none⟩ = false := own_free hx
      have z1 : wr.frozen? ⟨g, k * 2 + 1, none⟩ = false := own_free hx
      have HS2 := hide (own_set (own_set hx (i := k * 2) (.string { data := #[63] }) (by omega)) (i := k * 2 + 1) (.string { data := #[33] }) (by rw [List.length_set]; omega))
      have HS3 : Hid (Spoilt (.slice (some ⟨g, 0, none⟩) n cp) w ((wr.setCell ⟨g, k * 2, none⟩ (.string { data := #[63] })).setCell ⟨g, k * 2 + 1, none⟩ (.string { data := #[33] }))) := hide (HS.out.trans ((Spoilt.set rfl _ _).trans (Spoilt.set rfl _ _)))
      have hki : (k : Int) < (n : Int) := by omega
      clear hx hxl hB1 hu0 hu1
      go_wp2
      go_roundw
      case rel => exact ⟨k + 1, _, by omega, by go_num, HS2, HS3⟩
      case measure => simp [intOf]; omega
    · go_wp2
      simp [bodyPost, results, Tryz.results28, go_sem]
      exact HS.out
set_option maxRecDepth 20000 in
set_option maxHeartbeats 2000000 in
theorem sameLabels2_any (w : World) (va vb : Value) (a b : List Lab) (ha : readsLabels w w.heap.size va a) (hb : readsLabels w w.heap.size vb b) (hl : a.length ≤ 2000000) (hl2 : b.length ≤ 9223372036854775807) :
    Calls Tryz.prog 15 #[va, vb] w fun e w' => e = .returned (.bool (decide (a = b))) ∧ ∃ n, w' = w.drewN n := by
  obtain ⟨ao, ac, rfl, acells⟩ := ha
  obtain ⟨bo, bc, rfl, bcells⟩ := hb
  by_cases hlen : a.length = b.length
  · go_enter Tryz.func15, Tryz.ntmps15
    have hlen' : ((a.length : Int) != b.length) = false := by simp; omega
    go_wp2
    go_loopw [5] (fun i wr => ∃ k n : Nat, k ≤ a.length ∧ i = .int .i64 k ∧ wr = w.drewN n ∧ Hid (∀ j (ha : j < a.length) (hb : j < b.length), j < k → a[j] = b[j])) (fun i _ => a.length - (intOf i).toNat)
    case atStart => exact ⟨0, 0, by omega, rfl, rfl, hide (fun j _ _ h => by omega)⟩
    case round =>
      obtain ⟨k, n, hk, rfl, hw, HD⟩ := hrel
      have HW := hide hw
      clear hw
      by_cases hlt : k < a.length
      · have hltb : k < b.length := by omega
        obtain ⟨ab, aof, rfl, haB, a0, a1⟩ := acells k hlt
        obtain ⟨bb, bof, rfl, hbB, b0, b1⟩ := bcells k hltb
        have d0 : wr.cell? ⟨ab, aof + k * 2, none⟩ = some (.string (bs a[k].1)) := by rw [HW.out]; exact a0
        have d1 : wr.cell? ⟨ab, aof + k * 2 + 1, none⟩ = some (.string (bs a[k].2)) := by rw [HW.out]; exact a1
        have e0 : wr.cell? ⟨bb, bof + k * 2, none⟩ = some (.string (bs b[k].1)) := by rw [HW.out]; exact b0
        have e1 : wr.cell? ⟨bb, bof + k * 2 + 1, none⟩ = some (.string (bs b[k].2)) := by rw [HW.out]; exact b1
        clear a0 a1 b0 b1 acells bcells
        by_cases he : a[k] = b[k]
        · have HE := hide he
          rw [← he] at e0 e1
          clear he
          go_wp2
          go_quiet (fail)
          go_wp2
          go_roundw
          case rel => exact ⟨k + 1, _, by omega, by go_num, by rw [HW.out, World.drewN_drewN], hide (fun j ha hb h => by
            by_cases e : j = k
            · subst e; exact HE.out
            · exact HD.out j ha hb (by omega))⟩
          case measure => simp [intOf]; omega
        · have HF : Hid (decide (a = b) = false) := by
            show _ = _
            rw [decide_eq_false_iff_not]
            intro e
            subst e
            exact he rfl
          have hne := lab_ne he
          clear he
          rcases hne with h1 | ⟨h1, h2⟩
          all_goals
            go_wp2
            go_quiet (fail)
            go_wp2
            go_ret
            exact ⟨ret_bool (by rw [HF.out]), _, by rw [HW.out, World.drewN_drewN]⟩
      · have HF : Hid (decide (a = b) = true) := by
          show _ = _
          rw [decide_eq_true_iff]
          exact List.ext_getElem hlen fun j ha hb => HD.out j ha hb (by omega)
        go_wp2
        go_ret
        exact ⟨ret_bool (by rw [HF.out]), n, HW.out⟩
  · have HF : Hid (decide (a = b) = false) := by
      show _ = _
      rw [decide_eq_false_iff_not]
      intro e
      subst e
      exact hlen rfl
    have hlen' : ((a.length : Int) != b.length) = true := by simp; omega
    go_enter Tryz.func15, Tryz.ntmps15
    go_wp2
    go_ret
    exact ⟨ret_bool (by rw [HF.out]), 0, rfl⟩
theorem foldl_len : ∀ (l out : List Lab), (l.foldl makeStep out).length ≤ out.length + l.length
  | [], out => Nat.le_refl _
  | x :: l, out => by
    have ih := foldl_len l (makeStep out x)
    have h : (makeStep out x).length ≤ out.length + 1 := by
      unfold makeStep
      split
      · omega
      · exact putB_le _ _ _
    rw [List.foldl_cons, List.length_cons]
    omega
theorem makeAns_le (ls : List Lab) : (makeAns ls).length ≤ 20 := by
  unfold makeAns
  split
  · rename_i h
    unfold makeErr at h
    by_cases he : eachErr 0 ls = 0
    · have := (eachErr_names he).1
      have h2 := foldl_len ls []
      unfold makeL
      simp only [List.length_nil] at h2
      omega
    · rw [if_neg he] at h; exact absurd h he
  · simp
theorem withAns_le (ls : List Lab) (n v : List UInt8) : (withAns ls n v).length ≤ 20 := by
  unfold withAns
  split
  · rename_i h
    exact (withErr_zero.1 h).2.2
  · simp
/-- The first labels of a row. -/
theorem reads_front {w : World} {B n g cp : Nat} {ls xs : List Lab} (h : ownLabels w B (.slice (some ⟨g, 0, none⟩) n cp) (ls ++ xs)) : readsLabels w w.heap.size (.slice (some ⟨g, 0, none⟩) ls.length cp) ls := by
  obtain ⟨ao, c, e, hc⟩ := reads_ownLabels h
  simp only [Value.slice.injEq] at e
  obtain ⟨rfl, -, rfl⟩ := e
  refine ⟨_, _, rfl, fun i hi => ?_⟩
  obtain ⟨b, o, e, hb, c0, c1⟩ := hc i (by rw [List.length_append]; omega)
  rw [List.getElem_append_left hi] at c0 c1
  exact ⟨b, o, e, hb, c0, c1⟩
/-- Between two sizes. -/
def Between (v : Value) (B C : Nat) : Prop := ∀ g, v.ownBlock = some g → B ≤ g ∧ g < C
theorem between_own {w : World} {B e size n : Nat} {v : Value} {xs : List Value} (h : w.ownsRow B e size v n xs) : Between v B w.heap.size := fun g hg => h.lt g hg
theorem Between.other {x v : Value} {A B C D : Nat} (h : Between x C D) (k : Between v A B) (hs : B ≤ C) : ∀ g, x.ownBlock = some g → v.ownBlock ≠ some g := fun g hx hv => by
  have h1 := (h g hx).1
  have h2 := (k g hv).2
  omega
theorem Between.away {x v : Value} {A B C D : Nat} (h : Between x A B) (k : Between v C D) (hs : B ≤ C) : ∀ g, x.ownBlock = some g → v.ownBlock ≠ some g := fun g hx hv => by
  have h1 := (h g hx).2
  have h2 := (k g hv).1
  omega
theorem own_room {w : World} {B e size n g cp : Nat} {xs : List Value} (h : w.ownsRow B e size (.slice (some ⟨g, 0, none⟩) n cp) n xs) : n ≤ cp := by
  rcases h.2 with ⟨h1, _⟩ | ⟨g', cap, cur, e1, _, _, _, h4, _⟩
  · cases h1
  · simp only [Value.slice.injEq] at e1
    obtain ⟨_, _, rfl⟩ := e1
    omega
theorem room_cell (ls : List Lab) : (labCells (ls ++ [([114, 111, 111, 109], [])]))[ls.length * 2]? = some (.string { data := #[114, 111, 111, 109] }) := by
  rw [labCells_append, List.getElem?_append_right (by rw [labCells_length]; exact Nat.le_refl _), labCells_length, Nat.sub_self]
  rfl
def roomL : Lab := ([114, 111, 111, 109], [])
theorem room_row {w : World} {B cp : Nat} {ao : Option Addr} {ls : List Lab} (h : ownLabels w B (.slice ao (ls.length + 1) cp) (ls ++ [roomL])) :
    ∃ g, ao = some ⟨g, 0, none⟩ ∧ g < w.heap.size ∧ ls.length + 1 ≤ cp ∧ w.cell? ⟨g, ls.length * 2, none⟩ = some (.string { data := #[114, 111, 111, 109] }) ∧ readsLabels w w.heap.size (.slice (some ⟨g, 0, none⟩) ls.length cp) ls := by
  have h2 : w.ownsRow B 39 2 (.slice ao (ls.length + 1) cp) (ls.length + 1) (labCells (ls ++ [roomL])) := by
    have h' := h
    unfold ownLabels at h'
    rw [List.length_append] at h'
    exact h'
  obtain ⟨g, cp', e, hlt, hc⟩ := own_block h2 (by omega)
  simp only [Value.slice.injEq] at e
  obtain ⟨rfl, -, rfl⟩ := e
  exact ⟨g, rfl, hlt, own_room h2, hc _ _ (room_cell ls), reads_front h⟩
/-- The same labels, read twice. -/
theorem same_row (w : World) (va vb : Value) (a b : List Lab) (he : a = b) (ha : readsLabels w w.heap.size va a) (hb : readsLabels w w.heap.size vb b) (hl : a.length ≤ 2000000) :
    Calls Tryz.prog 15 #[va, vb] w fun e w' => e = .returned (.bool true) ∧ ∃ n, w' = w.drewN n := by
  subst he
  refine (sameLabels2_any w va vb a a ha hb hl (by omega)).mono ?_
  rintro e w' ⟨rfl, h⟩
  exact ⟨by rw [decide_eq_true rfl], h⟩
theorem match_row (w : World) (m t : List UInt8) (hml : m.length ≤ 9223372036854775807) (htl : t.length ≤ 9223372036854775807) :
    Calls Tryz.prog 27 #[.string (bs m), .string (bs t)] w fun e w' => Grow w w' ∧ ∃ (b : Bool) (ao : Option Addr) (n cp : Nat) (er : Int) (L : List (List UInt8)), e = .returned (.tuple #[.bool b, .slice ao n cp, .int .i64 er]) ∧ w'.ownsRow w.heap.size 9 1 (.slice ao n cp) n (strsV L) ∧ n ≤ 2000 := by
  refine (match_any w m t hml htl).mono ?_
  rintro e w' ⟨hg, h⟩
  refine ⟨hg, ?_⟩
  have nil : w'.ownsRow w.heap.size 9 1 (.slice none 0 0) 0 (strsV []) := World.ownsRow_nil _ _ _ _
  unfold matchAns at h
  cases hm : maskIs m with
  | error x =>
    rw [hm] at h
    exact ⟨_, _, _, _, _, [], h, nil, by omega⟩
  | ok x =>
    rw [hm] at h
    unfold matchOk at h
    simp only at h
    split at h
    · exact ⟨_, _, _, _, _, [], h, nil, by omega⟩
    · split at h
      · exact ⟨_, _, _, _, _, [], h, nil, by omega⟩
      · rename_i l _
        obtain ⟨v, rfl, ho⟩ := h
        obtain ⟨ao, cp, rfl⟩ := own_shape ho
        obtain ⟨T, g⟩ := x
        have hg9 := (maskIs_ok hm).2.2.1
        exact ⟨_, _, _, _, _, _, rfl, ho, by rw [tookL_len]; simp only; omega⟩
set_option maxRecDepth 20000 in
set_option maxHeartbeats 32000000 in
theorem restLabels_any (w : World) (htab : tabOk w) (va : Value) (ls : List Lab) (ha : readsLabels w w.heap.size va ls) (hlen : ls.length ≤ 1048576) (hin : ∀ y ∈ ls, y.1.length ≤ 9223372036854775807 ∧ y.2.length ≤ 9223372036854775807)
    (nm vl : List UInt8) (hnm : nm.length ≤ 1048576) (hvl : vl.length ≤ 1048576)
    (vr : Value) (rs : List Rul) (hr : readsRules w w.heap.size vr rs) (hrl : rs.length ≤ 1048576) (hok : okRs rs) (m t : List UInt8) (hml : m.length ≤ 1048576) (htl : t.length ≤ 1048576) :
    Calls Tryz.prog 9 #[va, .string (bs nm), .string (bs vl), vr, .string (bs m), .string (bs t)] w fun e w' => e = .returned (.bool true) ∧ Grow w w' := by
  have HWI : Hid (∀ W v, readsLabels W W.heap.size v ls → Calls Tryz.prog 25 #[v, .string (bs nm), .string (bs vl)] W fun e w' => Grow W w' ∧ ∃ ao cp, e = .returned (.tuple #[.slice ao (withAns ls nm vl).length cp, .int .i64 (withErr ls nm vl)]) ∧ ownLabels w' W.heap.size (.slice ao (withAns ls nm vl).length cp) (withAns ls nm vl)) := hide fun W v h => (with_any W v ls nm vl h (by omega) hin (by unfold maxLen; omega) (by unfold maxLen; omega)).mono fun e w' ⟨v', e1, ho, hg⟩ => by
    obtain ⟨ao, cp, rfl⟩ := own_shape ho
    exact ⟨hg, ao, cp, e1, ho⟩
  have HAP : Hid (∀ W v, Grow w W → readsLabels W W.heap.size v ls → Calls Tryz.prog 13 #[v, vr] W fun e w' => Grow W w' ∧ ∃ ao cp, e = .returned (.tuple #[.slice ao (applyB ls rs).1.length cp, .bool (applyB ls rs).2.1, .int .i64 (applyB ls rs).2.2]) ∧ ownLabels w' W.heap.size (.slice ao (applyB ls rs).1.length cp) (applyB ls rs).1) := hide fun W v hg h => (apply_any W v vr ls rs h (by omega) hin ((show readsRules W w.heap.size vr rs from hr.keep hg).more hg.size) (by omega) hok (tab_grow htab hg)).mono fun e w' ⟨hg2, mo, n, mc, e1, ho⟩ => by
    obtain ⟨ao, cp, e2⟩ := own_shape ho
    simp only [Value.slice.injEq] at e2
    obtain ⟨rfl, rfl, rfl⟩ := e2
    exact ⟨hg2, _, _, e1, ho⟩
  have HMK : Hid (∀ W v, readsLabels W W.heap.size v ls → Calls Tryz.prog 26 #[v] W fun e w' => Grow W w' ∧ ∃ ao cp, e = .returned (.tuple #[.slice ao (makeAns ls).length cp, .int .i64 (makeErr ls)]) ∧ ownLabels w' W.heap.size (.slice ao (makeAns ls).length cp) (makeAns ls)) := hide fun W v h => (make_any W v ls h (by omega) hin).mono fun e w' ⟨v', e1, ho, hg⟩ => by
    obtain ⟨ao, cp, rfl⟩ := own_shape ho
    exact ⟨hg, ao, cp, e1, ho⟩
  have HCK : Hid (∀ W v, readsLabels W W.heap.size v ls → Calls Tryz.prog 17 #[v] W fun e w' => e = .returned (.int .i64 (checkB ls)) ∧ Grow W w') := hide fun W v h => check_any W v ls h (by omega) hin
  have HMT := hide fun W => match_row W m t (by omega) (by omega)
  have HMR : Hid (makeErr ls = 0 → checkB ls = 0 → makeAns ls = ls) := hide fun _ h => (make_right h).2
  have hwl := withAns_le ls nm vl
  have hal := apply_small ls rs
  have hgl := makeAns_le ls
  have HA := hide ha
  have HTAB := hide htab
  obtain ⟨lo, lc, hva⟩ := readsLabels_len ha
  subst hva
  obtain ⟨ro, rc, hvr, _⟩ := hr
  subst hvr
  generalize withAns ls nm vl = wa at HWI hwl
  generalize withErr ls nm vl = we at HWI
  obtain ⟨⟨M, st, er⟩, HR⟩ : ∃ R, Hid (applyB ls rs = R) := ⟨_, hide rfl⟩
  rw [HR.out] at HAP hal
  generalize makeAns ls = ga at HMK HMR hgl
  generalize makeErr ls = ge at HMK HMR
  generalize checkB ls = ce at HCK HMR
  simp only at HAP hal
  clear ha htab hin hok HR
  go_enter Tryz.func9, Tryz.ntmps9
  go_wp2_with fail
  refine (labelsBegun_any w).mono ?_
  rintro e w1 ⟨rfl, hg1⟩
  have HG1 : Hid (Grow w w1) := hide hg1
  clear hg1
  go_wp2_with fail
  refine (relabelBegun_any w1 (tab_grow HTAB.out HG1.out)).mono ?_
  rintro e w2 ⟨rfl, hg2⟩
  have HG2 : Hid (Grow w w2) := hide (HG1.out.trans hg2)
  clear hg2
  go_wp2_with fail
  refine (maskBegun_any w2).mono ?_
  rintro e w3 ⟨rfl, hg3⟩
  have HG3 : Hid (Grow w w3) := hide (HG2.out.trans hg3)
  clear hg3
  have HT3 := hide (twin_any w3 _ ls (reads_up HA.out HG3.out) (by omega))
  go_wp2_with fail
  refine HT3.out.mono ?_
  rintro e w4 ⟨to, tc, rfl, ho4, hg4⟩
  obtain ⟨W, HW⟩ : ∃ W, Hid (W = w4.alloc (.cells #[.string { data := #[114, 111, 111, 109] }, .string { data := #[] }] 39)) := ⟨_, hide rfl⟩
  have gW : Grow w4 W := by rw [HW.out]; exact (Grow.refl _).alloc _
  have hr1 : readsLabels W W.heap.size (.slice (some ⟨w4.heap.size, 0, none⟩) 1 1) [roomL] := by rw [HW.out]; exact one_reads w4 [114, 111, 111, 109] []
  have HGW : Hid (Grow w3 W) := hide (hg4.trans gW)
  have HO := hide (own_grow ho4 gW)
  have HR1 := hide hr1
  have hsW := HGW.out.size
  rw [HW.out] at HO HR1 hsW
  clear hg4 gW hr1 ho4 HT3
  go_wp2_with (at_builtin; go_loud (refine append_labels (by rfl) _ _ rfl w3.heap.size _ ls.length 1 (ls.length + 1) _ _ ls [roomL] rfl rfl rfl rfl rfl HO.out HR1.out (by omega) hsW ?_))
  intro ro5 rc5 w5 hown5 hb5
  rw [← HW.out] at hb5
  obtain ⟨g5, rfl, hlt5, hcap, hrm, hin5⟩ := room_row hown5
  have hcapi : (ls.length : Int) ≤ (rc5 : Int) := by omega
  have HG5 : Hid (Grow w w5) := hide (HG3.out.trans (Below.trans HGW.out hb5))
  have HIN := hide hin5
  have HRM := hide hrm
  have HLT := hide hlt5
  clear hown5 hb5 hin5 hrm hlt5 hcap
  have HC6 := hide (HWI.out w5 _ (reads_up HA.out HG5.out))
  go_wp2_with fail
  refine HC6.out.mono ?_
  rintro e w6 ⟨hg6, ao6, ac6, rfl, ho6⟩
  have HG56 : Hid (Grow w5 w6) := hide hg6
  have HT7 := hide (twin_any w6 _ wa (reads_ownLabels ho6) (by omega))
  clear hg6 ho6 HC6
  go_wp2_with fail
  refine HT7.out.mono ?_
  rintro e w7 ⟨ko, kc, rfl, ho7, hg7⟩
  have HG57 : Hid (Grow w5 w7) := hide (HG56.out.trans hg7)
  have HK7 := hide (reads_ownLabels ho7)
  clear hg7 ho7 HT7
  have HC8 := hide (HAP.out w7 _ (HG5.out.trans HG57.out) (reads_up HA.out (HG5.out.trans HG57.out)))
  go_wp2_with fail
  refine HC8.out.mono ?_
  rintro e w8 ⟨hg8, ao8, ac8, rfl, ho8⟩
  have HG58 : Hid (Grow w5 w8) := hide (HG57.out.trans hg8)
  have HG78 := hide hg8
  have HT9 := hide (twin_any w8 _ M (reads_ownLabels ho8) (by omega))
  clear hg8 ho8 HC8
  go_wp2_with fail
  refine HT9.out.mono ?_
  rintro e w9 ⟨qo, qc, rfl, ho9, hg9⟩
  have HG59 : Hid (Grow w5 w9) := hide (HG58.out.trans hg9)
  have HG9 : Hid (Grow w w9) := hide (HG5.out.trans HG59.out)
  have HQ9 := hide (reads_ownLabels ho9)
  have HK9 := hide (reads_up HK7.out (HG78.out.trans hg9))
  have HIN9 := hide (reads_up HIN.out HG59.out)
  have HL9 := hide (reads_up HA.out HG9.out)
  have HRM9 := hide ((HG59.out.cell (p := ⟨g5, ls.length * 2, none⟩) HLT.out).trans HRM.out)
  have HLT9 : Hid (g5 < w9.heap.size) := hide (Nat.lt_of_lt_of_le HLT.out HG59.out.size)
  clear hg9 ho9 HT9 HG56 HG57 HG58 HG78 HG59 HK7 HIN HRM HLT
  go_wp2
  go_loopw [22] (fun iv wr => ∃ k : Nat, k ≤ 2 ∧ iv = .int .i64 k ∧ Hid (Grow w9 wr)) (fun iv _ => 2 - (intOf iv).toNat)
  case atStart => exact ⟨0, by omega, rfl, hide (Grow.refl _)⟩
  case round =>
    obtain ⟨k, hk, rfl, HG⟩ := hrel
    rename World => V0
    by_cases hlt : k < 2
    · have hlti : (k : Int) < 2 := by omega
      have HGw : Hid (Grow w V0) := hide (HG9.out.trans HG.out)
      have HC1 := hide (HWI.out V0 _ (reads_up HIN9.out HG.out))
      go_wp2_with fail
      refine HC1.out.mono ?_
      rintro e x1 ⟨hg1, ao, ac, rfl, hoa⟩
      have HX1 : Hid (Grow V0 x1) := hide hg1
      have HOA := hide hoa
      have HBA := hide (between_own hoa)
      have HC2 := hide (HAP.out x1 _ (HGw.out.trans hg1) (reads_up HIN9.out (HG.out.trans hg1)))
      clear hg1 hoa HC1
      go_wp2_with fail
      refine HC2.out.mono ?_
      rintro e x2 ⟨hg2, bo, bc, rfl, hob⟩
      have HX12 : Hid (Grow x1 x2) := hide hg2
      have HX2 : Hid (Grow V0 x2) := hide (HX1.out.trans hg2)
      have HOB := hide hob
      have HBB := hide (between_own hob)
      have HC3 := hide (HMK.out x2 _ (reads_up HIN9.out (HG.out.trans HX2.out)))
      clear hg2 hob HC2
      go_wp2_with fail
      refine HC3.out.mono ?_
      rintro e x3 ⟨hg3, co, cc, rfl, hoc⟩
      have HX23 : Hid (Grow x2 x3) := hide hg3
      have HX3 : Hid (Grow V0 x3) := hide (HX2.out.trans hg3)
      have HOC := hide hoc
      have HBC := hide (between_own hoc)
      have HC4 := hide (HMT.out x3)
      clear hg3 hoc HC3
      go_wp2_with fail
      refine HC4.out.mono ?_
      rintro e x4 ⟨hg4, mb, go, gn, gc, he, L, rfl, hog, hgn⟩
      have HX34 : Hid (Grow x3 x4) := hide hg4
      have HX4 : Hid (Grow V0 x4) := hide (HX3.out.trans hg4)
      have HOG := hide hog
      have HBG := hide (between_own hog)
      have hne : ((we : Int) != (we : Int)) = false := by simp
      have hne2 : ((er : Int) != (er : Int)) = false := by simp
      have hne3 : (st != st) = false := by simp
      have HS1 := hide (same_row x4 _ _ wa wa rfl (reads_ownLabels (own_grow HOA.out (HX12.out.trans (HX23.out.trans HX34.out)))) (reads_up HK9.out (HG.out.trans HX4.out)) (by omega))
      clear hg4 hog HC4
      go_wp2_with fail
      refine HS1.out.mono ?_
      rintro e x5 ⟨rfl, n5, hx5⟩
      have HX45 : Hid (Grow x4 x5) := hide (by rw [hx5]; exact grow_drewN _ _)
      have HX5 : Hid (Grow V0 x5) := hide (HX4.out.trans HX45.out)
      have HS2 := hide (same_row x5 _ _ M M rfl (reads_ownLabels (own_grow HOB.out (HX23.out.trans (HX34.out.trans HX45.out)))) (reads_up HQ9.out (HG.out.trans HX5.out)) (by omega))
      clear hx5 HS1
      go_wp2_with fail
      refine HS2.out.mono ?_
      rintro e x6 ⟨rfl, n6, hx6⟩
      have HX46 : Hid (Grow x4 x6) := hide (HX45.out.trans (by rw [hx6]; exact grow_drewN _ _))
      have HX6 : Hid (Grow V0 x6) := hide (HX4.out.trans HX46.out)
      have HS3 := hide (same_row x6 _ _ ls ls rfl (reads_up HIN9.out (HG.out.trans HX6.out)) (reads_up HL9.out (HG.out.trans HX6.out)) (by omega))
      clear hx6 HS2 HX45 HX5
      go_wp2_with fail
      refine HS3.out.mono ?_
      rintro e x7 ⟨rfl, n7, hx7⟩
      have HX47 : Hid (Grow x4 x7) := hide (HX46.out.trans (by rw [hx7]; exact grow_drewN _ _))
      have HX7 : Hid (Grow V0 x7) := hide (HX4.out.trans HX47.out)
      have d0 := ((HG.out.trans HX7.out).cell (p := ⟨g5, ls.length * 2, none⟩) HLT9.out).trans HRM9.out
      have hri : (ls.length : Int) < ((ls.length + 1 : Nat) : Int) := by omega
      clear hx7 HS3 HX46 HX6 hne hne2 hne3
      by_cases hge : ge = 0
      · have hge' : ((ge : Int) == 0) = true := by simp [hge]
        have HCX := hide (HCK.out x7 _ (reads_up HL9.out (HG.out.trans HX7.out)))
        by_cases hce : ce = 0
        · have hce' : ((ce : Int) == 0) = true := by simp [hce]
          have hga : ga = ls := HMR.out hge hce
          have HGA := hide hga
          clear hge hce hga
          go_wp2_with fail
          refine HCX.out.mono ?_
          rintro e x8 ⟨rfl, hg8⟩
          have HX48 : Hid (Grow x4 x8) := hide (HX47.out.trans hg8)
          have HX8 : Hid (Grow V0 x8) := hide (HX7.out.trans hg8)
          have HS4 := hide (same_row x8 _ _ ga ls HGA.out (reads_ownLabels (own_grow HOC.out (HX34.out.trans HX48.out))) (reads_up HL9.out (HG.out.trans HX8.out)) (by omega))
          clear hg8 HCX d0
          go_wp2_with fail
          refine HS4.out.mono ?_
          rintro e x9 ⟨rfl, n9, hx9⟩
          have HX : Hid (Grow x4 x9) := hide (HX48.out.trans (by rw [hx9]; exact grow_drewN _ _))
          clear hx9 HS4 HX48 HX8
          have HX1X3 : Hid (x1.heap.size ≤ x3.heap.size) := hide (Nat.le_trans HX12.out.size HX23.out.size)
          have hog9 := own_grow HOG.out HX.out
          have HOG9 := hide hog9
          clear hog9
          by_cases hhe : he = 0
          · have hhe' : (he == 0) = true := by simp [hhe]
            subst hhe
            go_wp2
            go_loopw [33] (fun jv wy => ∃ (j : Nat) (xs : List Value), j ≤ gn ∧ jv = .int .i64 j ∧ Hid (wy.ownsRow x3.heap.size 9 1 (.slice go gn gc) gn xs) ∧ Hid (Spoilt (.slice go gn gc) x9 wy)) (fun jv _ => gn - (intOf jv).toNat)
            case atStart => exact ⟨0, _, by omega, rfl, HOG9, hide (Spoilt.refl _ _)⟩
            case round =>
              obtain ⟨j, xs, hj, rfl, HXS, HY⟩ := hrel
              by_cases hjlt : j < gn
              · have hx := HXS.out
                have hxl : xs.length = gn * 1 := own_len hx
                obtain ⟨gg, gcp, hv', hB1⟩ := own_block hx (by omega)
                simp only [Value.slice.injEq] at hv'
                obtain ⟨rfl, -, rfl⟩ := hv'
                obtain ⟨u0, hu0⟩ : ∃ u, xs[j]? = some u := ⟨_, List.getElem?_eq_getElem (by omega)⟩
                have e0 : wr.cell? ⟨gg, j, none⟩ = some u0 := own_cell hx hu0
                have z0 : wr.frozen? ⟨gg, j, none⟩ = false := own_free hx
                have HS2 := hide (own_set hx (i := j) (.string { data := #[63] }) (by omega))
                have HS3 : Hid (Spoilt (.slice (some ⟨gg, 0, none⟩) gn gc) x9 (wr.setCell ⟨gg, j, none⟩ (.string { data := #[63] }))) := hide (HY.out.trans (Spoilt.set rfl _ _))
                have hji : (j : Int) < (gn : Int) := by omega
                clear hx hxl hB1 hu0
                go_wp2
                go_roundw
                case rel => exact ⟨j + 1, _, by omega, by go_num, HS2, HS3⟩
                case measure => simp [intOf]; omega
              · have hoa9 := own_grow HOA.out (HX12.out.trans (HX23.out.trans (HX34.out.trans HX.out)))
                have hob9 := own_grow HOB.out (HX23.out.trans (HX34.out.trans HX.out))
                have hoc9 := own_grow HOC.out (HX34.out.trans HX.out)
                have hoaY := HY.out.keep hoa9 (HBA.out.away HBG.out HX1X3.out)
                have hobY := HY.out.keep hob9 (HBB.out.away HBG.out HX23.out.size)
                have hocY := HY.out.keep hoc9 (HBC.out.away HBG.out (Nat.le_refl _))
                have HB0 : Hid (Below V0.heap.size V0 wr) := hide (Below.trans (HX4.out.trans HX.out) (HY.out.below (fun g hg => Nat.le_trans HX3.out.size (HBG.out g hg).1) (HX4.out.trans HX.out).size))
                have HA1 := hide (spoil_any wr _ _ wa hoaY (by omega))
                have HOBY := hide hobY
                have HOCY := hide hocY
                clear hoa9 hob9 hoc9 hoaY hobY hocY
                go_wp2_with fail
                refine HA1.out.mono ?_
                rintro e y1 ⟨rfl, hs1⟩
                have hob1 := hs1.keep HOBY.out (HBB.out.other HBA.out (Nat.le_refl _))
                have hoc1 := hs1.keep HOCY.out (HBC.out.other HBA.out HX12.out.size)
                have HB1 : Hid (Below V0.heap.size V0 y1) := hide (Below.trans HB0.out (hs1.below (fun g hg => (HBA.out g hg).1) HB0.out.size))
                have HA2 := hide (spoil_any y1 _ _ M hob1 (by omega))
                have HOC1 := hide hoc1
                clear hs1 hob1 hoc1 HA1
                go_wp2_with fail
                refine HA2.out.mono ?_
                rintro e y2 ⟨rfl, hs2⟩
                have hoc2 := hs2.keep HOC1.out (HBC.out.other HBB.out (Nat.le_refl _))
                have HB2 : Hid (Below V0.heap.size V0 y2) := hide (Below.trans HB1.out (hs2.below (fun g hg => Nat.le_trans HX1.out.size (HBB.out g hg).1) HB1.out.size))
                have HA3 := hide (spoil_any y2 _ _ ga hoc2 (by omega))
                clear hs2 hoc2 HA2
                go_wp2_with fail
                refine HA3.out.mono ?_
                rintro e y3 ⟨rfl, hs3⟩
                have HB3 : Hid (Grow w9 y3) := hide (HG.out.trans (Below.trans HB2.out (hs3.below (fun g hg => Nat.le_trans HX2.out.size (HBC.out g hg).1) HB2.out.size)))
                clear hs3 HA3
                go_wp2
                go_roundw
                case rel => exact ⟨k + 1, by omega, by go_num, HB3⟩
                case measure => simp [intOf]; omega
          · have hhe' : (he == 0) = false := by simp; exact hhe
            have HY : Hid (Spoilt (.slice go gn gc) x9 x9) := hide (Spoilt.refl _ _)
            clear hhe
            have hoa9 := own_grow HOA.out (HX12.out.trans (HX23.out.trans (HX34.out.trans HX.out)))
            have hob9 := own_grow HOB.out (HX23.out.trans (HX34.out.trans HX.out))
            have hoc9 := own_grow HOC.out (HX34.out.trans HX.out)
            have hoaY := HY.out.keep hoa9 (HBA.out.away HBG.out HX1X3.out)
            have hobY := HY.out.keep hob9 (HBB.out.away HBG.out HX23.out.size)
            have hocY := HY.out.keep hoc9 (HBC.out.away HBG.out (Nat.le_refl _))
            have HB0 : Hid (Below V0.heap.size V0 x9) := hide (Below.trans (HX4.out.trans HX.out) (HY.out.below (fun g hg => Nat.le_trans HX3.out.size (HBG.out g hg).1) (HX4.out.trans HX.out).size))
            have HA1 := hide (spoil_any x9 _ _ wa hoaY (by omega))
            have HOBY := hide hobY
            have HOCY := hide hocY
            clear hoa9 hob9 hoc9 hoaY hobY hocY
            go_wp2_with fail
            refine HA1.out.mono ?_
            rintro e y1 ⟨rfl, hs1⟩
            have hob1 := hs1.keep HOBY.out (HBB.out.other HBA.out (Nat.le_refl _))
            have hoc1 := hs1.keep HOCY.out (HBC.out.other HBA.out HX12.out.size)
            have HB1 : Hid (Below V0.heap.size V0 y1) := hide (Below.trans HB0.out (hs1.below (fun g hg => (HBA.out g hg).1) HB0.out.size))
            have HA2 := hide (spoil_any y1 _ _ M hob1 (by omega))
            have HOC1 := hide hoc1
            clear hs1 hob1 hoc1 HA1
            go_wp2_with fail
            refine HA2.out.mono ?_
            rintro e y2 ⟨rfl, hs2⟩
            have hoc2 := hs2.keep HOC1.out (HBC.out.other HBB.out (Nat.le_refl _))
            have HB2 : Hid (Below V0.heap.size V0 y2) := hide (Below.trans HB1.out (hs2.below (fun g hg => Nat.le_trans HX1.out.size (HBB.out g hg).1) HB1.out.size))
            have HA3 := hide (spoil_any y2 _ _ ga hoc2 (by omega))
            clear hs2 hoc2 HA2
            go_wp2_with fail
            refine HA3.out.mono ?_
            rintro e y3 ⟨rfl, hs3⟩
            have HB3 : Hid (Grow w9 y3) := hide (HG.out.trans (Below.trans HB2.out (hs3.below (fun g hg => Nat.le_trans HX2.out.size (HBC.out g hg).1) HB2.out.size)))
            clear hs3 HA3
            go_wp2
            go_roundw
            case rel => exact ⟨k + 1, by omega, by go_num, HB3⟩
            case measure => simp [intOf]; omega
        · have hce' : ((ce : Int) == 0) = false := by simp; exact hce
          clear hge hce
          go_wp2_with fail
          refine HCX.out.mono ?_
          rintro e x9 ⟨rfl, hg8⟩
          have HX : Hid (Grow x4 x9) := hide (HX47.out.trans hg8)
          clear hg8 HCX d0
          have HX1X3 : Hid (x1.heap.size ≤ x3.heap.size) := hide (Nat.le_trans HX12.out.size HX23.out.size)
          have hog9 := own_grow HOG.out HX.out
          have HOG9 := hide hog9
          clear hog9
          by_cases hhe : he = 0
          · have hhe' : (he == 0) = true := by simp [hhe]
            subst hhe
            go_wp2
            go_loopw [33] (fun jv wy => ∃ (j : Nat) (xs : List Value), j ≤ gn ∧ jv = .int .i64 j ∧ Hid (wy.ownsRow x3.heap.size 9 1 (.slice go gn gc) gn xs) ∧ Hid (Spoilt (.slice go gn gc) x9 wy)) (fun jv _ => gn - (intOf jv).toNat)
            case atStart => exact ⟨0, _, by omega, rfl, HOG9, hide (Spoilt.refl _ _)⟩
            case round =>
              obtain ⟨j, xs, hj, rfl, HXS, HY⟩ := hrel
              by_cases hjlt : j < gn
              · have hx := HXS.out
                have hxl : xs.length = gn * 1 := own_len hx
                obtain ⟨gg, gcp, hv', hB1⟩ := own_block hx (by omega)
                simp only [Value.slice.injEq] at hv'
                obtain ⟨rfl, -, rfl⟩ := hv'
                obtain ⟨u0, hu0⟩ : ∃ u, xs[j]? = some u := ⟨_, List.getElem?_eq_getElem (by omega)⟩
                have e0 : wr.cell? ⟨gg, j, none⟩ = some u0 := own_cell hx hu0
                have z0 : wr.frozen? ⟨gg, j, none⟩ = false := own_free hx
                have HS2 := hide (own_set hx (i := j) (.string { data := #[63] }) (by omega))
                have HS3 : Hid (Spoilt (.slice (some ⟨gg, 0, none⟩) gn gc) x9 (wr.setCell ⟨gg, j, none⟩ (.string { data := #[63] }))) := hide (HY.out.trans (Spoilt.set rfl _ _))
                have hji : (j : Int) < (gn : Int) := by omega
                clear hx hxl hB1 hu0
                go_wp2
                go_roundw
                case rel => exact ⟨j + 1, _, by omega, by go_num, HS2, HS3⟩
                case measure => simp [intOf]; omega
              · have hoa9 := own_grow HOA.out (HX12.out.trans (HX23.out.trans (HX34.out.trans HX.out)))
                have hob9 := own_grow HOB.out (HX23.out.trans (HX34.out.trans HX.out))
                have hoc9 := own_grow HOC.out (HX34.out.trans HX.out)
                have hoaY := HY.out.keep hoa9 (HBA.out.away HBG.out HX1X3.out)
                have hobY := HY.out.keep hob9 (HBB.out.away HBG.out HX23.out.size)
                have hocY := HY.out.keep hoc9 (HBC.out.away HBG.out (Nat.le_refl _))
                have HB0 : Hid (Below V0.heap.size V0 wr) := hide (Below.trans (HX4.out.trans HX.out) (HY.out.below (fun g hg => Nat.le_trans HX3.out.size (HBG.out g hg).1) (HX4.out.trans HX.out).size))
                have HA1 := hide (spoil_any wr _ _ wa hoaY (by omega))
                have HOBY := hide hobY
                have HOCY := hide hocY
                clear hoa9 hob9 hoc9 hoaY hobY hocY
                go_wp2_with fail
                refine HA1.out.mono ?_
                rintro e y1 ⟨rfl, hs1⟩
                have hob1 := hs1.keep HOBY.out (HBB.out.other HBA.out (Nat.le_refl _))
                have hoc1 := hs1.keep HOCY.out (HBC.out.other HBA.out HX12.out.size)
                have HB1 : Hid (Below V0.heap.size V0 y1) := hide (Below.trans HB0.out (hs1.below (fun g hg => (HBA.out g hg).1) HB0.out.size))
                have HA2 := hide (spoil_any y1 _ _ M hob1 (by omega))
                have HOC1 := hide hoc1
                clear hs1 hob1 hoc1 HA1
                go_wp2_with fail
                refine HA2.out.mono ?_
                rintro e y2 ⟨rfl, hs2⟩
                have hoc2 := hs2.keep HOC1.out (HBC.out.other HBB.out (Nat.le_refl _))
                have HB2 : Hid (Below V0.heap.size V0 y2) := hide (Below.trans HB1.out (hs2.below (fun g hg => Nat.le_trans HX1.out.size (HBB.out g hg).1) HB1.out.size))
                have HA3 := hide (spoil_any y2 _ _ ga hoc2 (by omega))
                clear hs2 hoc2 HA2
                go_wp2_with fail
                refine HA3.out.mono ?_
                rintro e y3 ⟨rfl, hs3⟩
                have HB3 : Hid (Grow w9 y3) := hide (HG.out.trans (Below.trans HB2.out (hs3.below (fun g hg => Nat.le_trans HX2.out.size (HBC.out g hg).1) HB2.out.size)))
                clear hs3 HA3
                go_wp2
                go_roundw
                case rel => exact ⟨k + 1, by omega, by go_num, HB3⟩
                case measure => simp [intOf]; omega
          · have hhe' : (he == 0) = false := by simp; exact hhe
            have HY : Hid (Spoilt (.slice go gn gc) x9 x9) := hide (Spoilt.refl _ _)
            clear hhe
            have hoa9 := own_grow HOA.out (HX12.out.trans (HX23.out.trans (HX34.out.trans HX.out)))
            have hob9 := own_grow HOB.out (HX23.out.trans (HX34.out.trans HX.out))
            have hoc9 := own_grow HOC.out (HX34.out.trans HX.out)
            have hoaY := HY.out.keep hoa9 (HBA.out.away HBG.out HX1X3.out)
            have hobY := HY.out.keep hob9 (HBB.out.away HBG.out HX23.out.size)
            have hocY := HY.out.keep hoc9 (HBC.out.away HBG.out (Nat.le_refl _))
            have HB0 : Hid (Below V0.heap.size V0 x9) := hide (Below.trans (HX4.out.trans HX.out) (HY.out.below (fun g hg => Nat.le_trans HX3.out.size (HBG.out g hg).1) (HX4.out.trans HX.out).size))
            have HA1 := hide (spoil_any x9 _ _ wa hoaY (by omega))
            have HOBY := hide hobY
            have HOCY := hide hocY
            clear hoa9 hob9 hoc9 hoaY hobY hocY
            go_wp2_with fail
            refine HA1.out.mono ?_
            rintro e y1 ⟨rfl, hs1⟩
            have hob1 := hs1.keep HOBY.out (HBB.out.other HBA.out (Nat.le_refl _))
            have hoc1 := hs1.keep HOCY.out (HBC.out.other HBA.out HX12.out.size)
            have HB1 : Hid (Below V0.heap.size V0 y1) := hide (Below.trans HB0.out (hs1.below (fun g hg => (HBA.out g hg).1) HB0.out.size))
            have HA2 := hide (spoil_any y1 _ _ M hob1 (by omega))
            have HOC1 := hide hoc1
            clear hs1 hob1 hoc1 HA1
            go_wp2_with fail
            refine HA2.out.mono ?_
            rintro e y2 ⟨rfl, hs2⟩
            have hoc2 := hs2.keep HOC1.out (HBC.out.other HBB.out (Nat.le_refl _))
            have HB2 : Hid (Below V0.heap.size V0 y2) := hide (Below.trans HB1.out (hs2.below (fun g hg => Nat.le_trans HX1.out.size (HBB.out g hg).1) HB1.out.size))
            have HA3 := hide (spoil_any y2 _ _ ga hoc2 (by omega))
            clear hs2 hoc2 HA2
            go_wp2_with fail
            refine HA3.out.mono ?_
            rintro e y3 ⟨rfl, hs3⟩
            have HB3 : Hid (Grow w9 y3) := hide (HG.out.trans (Below.trans HB2.out (hs3.below (fun g hg => Nat.le_trans HX2.out.size (HBC.out g hg).1) HB2.out.size)))
            clear hs3 HA3
            go_wp2
            go_roundw
            case rel => exact ⟨k + 1, by omega, by go_num, HB3⟩
            case measure => simp [intOf]; omega
      · have hge' : ((ge : Int) == 0) = false := by simp; exact hge
        have HX := HX47
        obtain ⟨x9, hx9⟩ : ∃ x9, x9 = x7 := ⟨_, rfl⟩
        subst hx9
        clear hge
        have HX1X3 : Hid (x1.heap.size ≤ x3.heap.size) := hide (Nat.le_trans HX12.out.size HX23.out.size)
        have hog9 := own_grow HOG.out HX.out
        have HOG9 := hide hog9
        clear hog9
        by_cases hhe : he = 0
        · have hhe' : (he == 0) = true := by simp [hhe]
          subst hhe
          go_wp2
          go_loopw [33] (fun jv wy => ∃ (j : Nat) (xs : List Value), j ≤ gn ∧ jv = .int .i64 j ∧ Hid (wy.ownsRow x3.heap.size 9 1 (.slice go gn gc) gn xs) ∧ Hid (Spoilt (.slice go gn gc) x9 wy)) (fun jv _ => gn - (intOf jv).toNat)
          case atStart => exact ⟨0, _, by omega, rfl, HOG9, hide (Spoilt.refl _ _)⟩
          case round =>
            obtain ⟨j, xs, hj, rfl, HXS, HY⟩ := hrel
            by_cases hjlt : j < gn
            · have hx := HXS.out
              have hxl : xs.length = gn * 1 := own_len hx
              obtain ⟨gg, gcp, hv', hB1⟩ := own_block hx (by omega)
              simp only [Value.slice.injEq] at hv'
              obtain ⟨rfl, -, rfl⟩ := hv'
              obtain ⟨u0, hu0⟩ : ∃ u, xs[j]? = some u := ⟨_, List.getElem?_eq_getElem (by omega)⟩
              have e0 : wr.cell? ⟨gg, j, none⟩ = some u0 := own_cell hx hu0
              have z0 : wr.frozen? ⟨gg, j, none⟩ = false := own_free hx
              have HS2 := hide (own_set hx (i := j) (.string { data := #[63] }) (by omega))
              have HS3 : Hid (Spoilt (.slice (some ⟨gg, 0, none⟩) gn gc) x9 (wr.setCell ⟨gg, j, none⟩ (.string { data := #[63] }))) := hide (HY.out.trans (Spoilt.set rfl _ _))
              have hji : (j : Int) < (gn : Int) := by omega
              clear hx hxl hB1 hu0
              go_wp2
              go_roundw
              case rel => exact ⟨j + 1, _, by omega, by go_num, HS2, HS3⟩
              case measure => simp [intOf]; omega
            · have hoa9 := own_grow HOA.out (HX12.out.trans (HX23.out.trans (HX34.out.trans HX.out)))
              have hob9 := own_grow HOB.out (HX23.out.trans (HX34.out.trans HX.out))
              have hoc9 := own_grow HOC.out (HX34.out.trans HX.out)
              have hoaY := HY.out.keep hoa9 (HBA.out.away HBG.out HX1X3.out)
              have hobY := HY.out.keep hob9 (HBB.out.away HBG.out HX23.out.size)
              have hocY := HY.out.keep hoc9 (HBC.out.away HBG.out (Nat.le_refl _))
              have HB0 : Hid (Below V0.heap.size V0 wr) := hide (Below.trans (HX4.out.trans HX.out) (HY.out.below (fun g hg => Nat.le_trans HX3.out.size (HBG.out g hg).1) (HX4.out.trans HX.out).size))
              have HA1 := hide (spoil_any wr _ _ wa hoaY (by omega))
              have HOBY := hide hobY
              have HOCY := hide hocY
              clear hoa9 hob9 hoc9 hoaY hobY hocY
              go_wp2_with fail
              refine HA1.out.mono ?_
              rintro e y1 ⟨rfl, hs1⟩
              have hob1 := hs1.keep HOBY.out (HBB.out.other HBA.out (Nat.le_refl _))
              have hoc1 := hs1.keep HOCY.out (HBC.out.other HBA.out HX12.out.size)
              have HB1 : Hid (Below V0.heap.size V0 y1) := hide (Below.trans HB0.out (hs1.below (fun g hg => (HBA.out g hg).1) HB0.out.size))
              have HA2 := hide (spoil_any y1 _ _ M hob1 (by omega))
              have HOC1 := hide hoc1
              clear hs1 hob1 hoc1 HA1
              go_wp2_with fail
              refine HA2.out.mono ?_
              rintro e y2 ⟨rfl, hs2⟩
              have hoc2 := hs2.keep HOC1.out (HBC.out.other HBB.out (Nat.le_refl _))
              have HB2 : Hid (Below V0.heap.size V0 y2) := hide (Below.trans HB1.out (hs2.below (fun g hg => Nat.le_trans HX1.out.size (HBB.out g hg).1) HB1.out.size))
              have HA3 := hide (spoil_any y2 _ _ ga hoc2 (by omega))
              clear hs2 hoc2 HA2
              go_wp2_with fail
              refine HA3.out.mono ?_
              rintro e y3 ⟨rfl, hs3⟩
              have HB3 : Hid (Grow w9 y3) := hide (HG.out.trans (Below.trans HB2.out (hs3.below (fun g hg => Nat.le_trans HX2.out.size (HBC.out g hg).1) HB2.out.size)))
              clear hs3 HA3
              go_wp2
              go_roundw
              case rel => exact ⟨k + 1, by omega, by go_num, HB3⟩
              case measure => simp [intOf]; omega
        · have hhe' : (he == 0) = false := by simp; exact hhe
          have HY : Hid (Spoilt (.slice go gn gc) x9 x9) := hide (Spoilt.refl _ _)
          clear hhe
          have hoa9 := own_grow HOA.out (HX12.out.trans (HX23.out.trans (HX34.out.trans HX.out)))
          have hob9 := own_grow HOB.out (HX23.out.trans (HX34.out.trans HX.out))
          have hoc9 := own_grow HOC.out (HX34.out.trans HX.out)
          have hoaY := HY.out.keep hoa9 (HBA.out.away HBG.out HX1X3.out)
          have hobY := HY.out.keep hob9 (HBB.out.away HBG.out HX23.out.size)
          have hocY := HY.out.keep hoc9 (HBC.out.away HBG.out (Nat.le_refl _))
          have HB0 : Hid (Below V0.heap.size V0 x9) := hide (Below.trans (HX4.out.trans HX.out) (HY.out.below (fun g hg => Nat.le_trans HX3.out.size (HBG.out g hg).1) (HX4.out.trans HX.out).size))
          have HA1 := hide (spoil_any x9 _ _ wa hoaY (by omega))
          have HOBY := hide hobY
          have HOCY := hide hocY
          clear hoa9 hob9 hoc9 hoaY hobY hocY
          go_wp2_with fail
          refine HA1.out.mono ?_
          rintro e y1 ⟨rfl, hs1⟩
          have hob1 := hs1.keep HOBY.out (HBB.out.other HBA.out (Nat.le_refl _))
          have hoc1 := hs1.keep HOCY.out (HBC.out.other HBA.out HX12.out.size)
          have HB1 : Hid (Below V0.heap.size V0 y1) := hide (Below.trans HB0.out (hs1.below (fun g hg => (HBA.out g hg).1) HB0.out.size))
          have HA2 := hide (spoil_any y1 _ _ M hob1 (by omega))
          have HOC1 := hide hoc1
          clear hs1 hob1 hoc1 HA1
          go_wp2_with fail
          refine HA2.out.mono ?_
          rintro e y2 ⟨rfl, hs2⟩
          have hoc2 := hs2.keep HOC1.out (HBC.out.other HBB.out (Nat.le_refl _))
          have HB2 : Hid (Below V0.heap.size V0 y2) := hide (Below.trans HB1.out (hs2.below (fun g hg => Nat.le_trans HX1.out.size (HBB.out g hg).1) HB1.out.size))
          have HA3 := hide (spoil_any y2 _ _ ga hoc2 (by omega))
          clear hs2 hoc2 HA2
          go_wp2_with fail
          refine HA3.out.mono ?_
          rintro e y3 ⟨rfl, hs3⟩
          have HB3 : Hid (Grow w9 y3) := hide (HG.out.trans (Below.trans HB2.out (hs3.below (fun g hg => Nat.le_trans HX2.out.size (HBC.out g hg).1) HB2.out.size)))
          clear hs3 HA3
          go_wp2
          go_roundw
          case rel => exact ⟨k + 1, by omega, by go_num, HB3⟩
          case measure => simp [intOf]; omega
    · have hlti : ¬ (k : Int) < 2 := by omega
      go_wp2
      go_ret
      exact ⟨rfl, HG9.out.trans HG.out⟩
end Go.Proofs.YtndpjdmfkhjiiaaGreatDoor.Rl
