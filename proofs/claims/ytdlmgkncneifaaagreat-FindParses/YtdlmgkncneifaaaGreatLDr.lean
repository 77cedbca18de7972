/- labels: Check and Compare once more, where it is told that no draw is taken back. -/
import Derived.Test.YtdlmgkncneifaaaGreatProg
import Derived.Test.YtdlmgkncneifaaaGreatKit
import Derived.Test.YtdlmgkncneifaaaGreatLSpec
import Derived.Test.YtdlmgkncneifaaaGreatReg
import Derived.Test.YtdlmgkncneifaaaGreatLRow
import Derived.Test.YtdlmgkncneifaaaGreatLChk
import Derived.Test.YtdlmgkncneifaaaGreatLTwi
import Derived.Test.YtdlmgkncneifaaaGreatLCmp
import Derived.Test.YtdlmgkncneifaaaGreatLRefB
import Derived.Maps.Own
import Derived.Maps.OwnOps
import Derived.Maps.OwnSet
import Derived.Maps.Views
import Derived.BigQuiet
import Derived.Deep.RegionHeld3
import Derived.Sort.OwnSorted
set_option linter.unusedVariables false
set_option linter.unusedSimpArgs false
namespace Go.Proofs.YtdlmgkncneifaaaGreat.Ld
open Go.RowKit Go.Maps Go.Sort Lb
open Go.WideMaps (keyOf_string_mk)
attribute [local go_sem] bs_size bs_toList bs_append bs_get bs_extract

theorem ask_drawn {α : Type} (a : Ask α) : ∀ w : World, w.drawn ≤ (w.ask a).2.drawn := by
  induction a with
  | done a => intro w; exact Nat.le_refl _
  | ask what range k ih =>
    intro w
    unfold World.ask
    dsimp only
    split
    · exact ih _ _
    · exact Nat.le_trans (Nat.le_succ w.drawn) (ih _ { w with drawn := w.drawn + 1 })
theorem sys_drawn (c : Sys) (w : World) : w.drawn ≤ (w.sys c).2.drawn := by
  have h := ask_drawn (Kernel.perform c w.os) w
  unfold World.sys
  generalize w.ask (Kernel.perform c w.os) = p at h
  obtain ⟨⟨r, os⟩, w2⟩ := p
  cases r <;> first | exact Nat.le_refl _ | exact h
theorem viewStore_drawn {p : Program} {w : World} {at_ : Addr} {u : TypeId} {k : Addr} {v : Value} {b : Bool} {w' : World} {l : List Addr} (h : w.viewStore p at_ u k v b = .ok (w', l)) : w'.drawn = w.drawn := by
  unfold World.viewStore at h
  simp only [bind, Except.bind, pure, Except.pure] at h
  repeat' (split at h)
  all_goals first
    | (simp at h; done)
    | (simp at h; obtain ⟨rfl, _⟩ := h; rfl)
    | skip
theorem farStore_drawn {p : Program} {w : World} {a : Addr} {v : Value} {b : Bool} {w' : World} {l : List Addr} (h : w.farStore p a v b = .ok (w', l)) : w'.drawn = w.drawn := by
  unfold World.farStore at h
  split at h
  · split at h
    · rename_i h2
      cases h
      exact viewStore_drawn h2
    · cases h
  · cases h
/-- No draw is taken back. -/
theorem run_drawn {α : Type} {p : Program} (s : Sem α) : ∀ {w w' : World} {a : α}, s.run p w = .ok a w' → w.drawn ≤ w'.drawn := by
  induction s with
  | pure a => intro w w' a h; simp [Sem.run] at h; rw [h.2]; exact Nat.le_refl _
  | load m x k ih =>
    intro w w' a h
    unfold Sem.run at h
    split at h
    · exact ih _ h
    · split at h
      · exact ih _ h
      · cases h
  | store m x v k ih =>
    intro w w' a h
    cases v with
    | agg _ => simp [Sem.run] at h
    | tuple _ => simp [Sem.run] at h
    | _ =>
      simp only [Sem.run] at h
      split at h
      · split at h
        · cases h
        · have h1 := ih h
          exact h1
      · split at h
        · rename_i h2
          have := ih h
          rw [farStore_drawn h2] at this
          exact this
        · cases h
  | new o k ih => intro w w' a h; unfold Sem.run at h; have h1 := ih _ h; exact h1
  | shape r k ih => intro w w' a h; unfold Sem.run at h; exact ih _ h
  | freeze x n k ih =>
    intro w w' a h
    unfold Sem.run at h
    have h1 := ih h
    have h2 : (w.freeze x n).drawn = w.drawn := by unfold World.freeze; split <;> rfl
    omega
  | frozen x k ih => intro w w' a h; unfold Sem.run at h; exact ih _ h
  | getObj r k ih =>
    intro w w' a h
    unfold Sem.run at h
    split at h <;> first | (cases h; done) | exact ih _ h
  | setObj r o k ih =>
    intro w w' a h
    unfold Sem.run at h
    split at h <;> first | (cases h; done) | (have h1 := ih h; exact h1)
  | choose q k ih =>
    intro w w' a h
    unfold Sem.run at h
    split at h
    · exact ih _ h
    · exact Nat.le_trans (Nat.le_succ _) (ih _ h)
  | sys c k ih => intro w w' a h; unfold Sem.run at h; exact Nat.le_trans (sys_drawn c w) (ih _ h)
  | program k ih => intro w w' a h; unfold Sem.run at h; exact ih _ h
  | mark m k ih => intro w w' a h; unfold Sem.run at h; exact ih h
  | halt x => intro w w' a h; unfold Sem.run at h; cases h

/-- Only new blocks have come, and draws. -/
structure Below (B : Nat) (w w' : World) : Prop extends Go.RowKit.Below B w w' where
  drawn : w.drawn ≤ w'.drawn
theorem Below.refl (B : Nat) (w : World) : Below B w w := ⟨Go.RowKit.Below.refl _ _, Nat.le_refl _⟩
theorem Below.trans {B : Nat} {a b c : World} (h : Below B a b) (k : Below B b c) : Below B a c := ⟨h.toBelow.trans k.toBelow, Nat.le_trans h.drawn k.drawn⟩
theorem Below.mono {B B' : Nat} {w w' : World} (h : Below B w w') (hB : B' ≤ B) : Below B' w w' := ⟨h.toBelow.mono hB, h.drawn⟩
theorem Below.alloc {B : Nat} {a w : World} (h : Below B a w) (hB : B ≤ w.heap.size) (o : Obj) : Below B a (w.alloc o) := ⟨h.toBelow.alloc hB o, h.drawn⟩
theorem Below.drewN {B : Nat} {a w : World} (h : Below B a w) (n : Nat) : Below B a (w.drewN n) := ⟨h.toBelow.trans ⟨rfl, rfl, rfl, Nat.le_refl _, fun _ _ => rfl⟩, Nat.le_trans h.drawn (Nat.le_add_right _ _)⟩
theorem Below.grown {B : Nat} {a w w' : World} {row : Option Nat} (h : Below B a w) (hg : w.grownBy w' row) (hd : w.drawn ≤ w'.drawn) (hB : B ≤ w.heap.size) (hr : ∀ k, row = some k → B ≤ k) : Below B a w' := ⟨h.toBelow.grown hg hB hr, Nat.le_trans h.drawn hd⟩
def Grow (w w' : World) : Prop := Below w.heap.size w w'
theorem Grow.refl (w : World) : Grow w w := Below.refl _ _
theorem Grow.trans {a b c : World} (h : Grow a b) (k : Grow b c) : Grow a c := Below.trans h (Below.mono k h.size)
theorem Grow.alloc {w w' : World} (h : Grow w w') (o : Obj) : Grow w (w'.alloc o) := Below.alloc h h.size o
theorem readsLabels_below {w w' : World} {B : Nat} {v : Value} {ls : List Lab} (h : readsLabels w B v ls) (hb : Below B w w') : readsLabels w' B v ls := Lb.readsLabels_below h hb.toBelow
/-- The same world but for its draws. -/
theorem Below.draws {B : Nat} {a w w' : World} (h : Below B a w) (hd : w.drawn ≤ w'.drawn) (e : w' = { w with drawn := w'.drawn }) : Below B a w' := by
  rw [e]
  exact ⟨⟨h.os, h.tape, h.output, h.size, h.block⟩, Nat.le_trans h.drawn hd⟩
/-- Such a world is the old one with draws and blocks behind it. -/
theorem Below.as_grow {w w' : World} (h : Below w.heap.size w w') : ∃ q os', w' = grow (w.drewN q) os' := by
  refine ⟨w'.drawn - w.drawn, w'.heap.extract w.heap.size w'.heap.size, ?_⟩
  have hh : w'.heap = w.heap ++ w'.heap.extract w.heap.size w'.heap.size := by
    apply Array.ext_getElem?
    intro i
    by_cases hi : i < w.heap.size
    · rw [h.block i hi, Array.getElem?_append_left hi]
    · rw [Array.getElem?_append_right (by omega)]
      have hs := h.size
      by_cases h2 : i < w'.heap.size
      · rw [Array.getElem?_extract]
        rw [if_pos (by omega)]
        congr 1
        omega
      · rw [Array.getElem?_eq_none (by omega), Array.getElem?_eq_none (by rw [Array.size_extract]; omega)]
  have hd : w.drawn + (w'.drawn - w.drawn) = w'.drawn := by have := h.drawn; omega
  have h1 := h.os
  have h2 := h.tape
  have h3 := h.output
  cases w'
  cases w
  simp only [grow, World.drewN] at *
  subst h1 h2 h3
  rw [← hh, hd]
theorem wpList_mapUpdate_ownD {H : Type} {P : Program} (w : World) {ops : Array Oper} {rest : List Oper} {o : Oper} {a : Act} {Q : Exit → Act → World → Prop}
    (hg : o.guard = none) (m x v : Operand) (t : TypeId) (hop : o.op = Op.mapUpdate t m x v)
    (k e : TypeId) (K : Keyed P k) (ht : P.underlying t = some (.map k e)) (R : Value → Option (DataW H × List MemPlace)) (b n : Nat) (D : DataW H)
    (hm : a.eval m = .map (some b)) (hown : w.ownsMap P k R b n D) (hn : n < maxLen) (key val : Value) (kl : Lit) (hx : a.eval x = key) (hv : a.eval v = val) (hkey : keyOf P k key = some kl)
    (d : DataW H) (ps : List MemPlace) (hval : R val = some (d, ps))
    (hK : ∀ w', w'.ownsMap P k R b (n + 1) (D.put kl d) → w.grownBy w' (some b) → w.drawn ≤ w'.drawn → wpList P ops Q rest (a.put o.dst undef) w') :
    wpList P ops Q (o :: rest) a w := by
  refine wpList_plain hg fun K' hK' => ?_
  obtain ⟨w', hrun, r1, r2⟩ := hown.update K ht hn hkey hval
  have hd := run_drawn _ hrun
  unfold Oper.wp
  simp [execOp, hop, hm, hx, hv, hrun, Result.andThen]
  exact hK' _ _ (hK w' r1 r2 hd)

set_option maxRecDepth 20000 in
set_option maxHeartbeats 2000000 in
theorem checkEach_any (w : World) (v : Value) (ls : List Lab) (least : Nat) (hv : readsLabels w w.heap.size v ls) (hlen : ls.length ≤ 9223372036854775807) (hin : lensOk ls) (hle : least ≤ 1) :
    Calls Tryz.prog 56 #[v, .int .i64 least] w fun e w' => e = .returned (.int .i64 (eachErr least ls)) ∧ Below w.heap.size w w' := by
  obtain ⟨ao, cp, rfl, hcells⟩ := id hv
  have HI := hide hin
  clear hin hv
  by_cases h20 : ls.length ≤ 20
  · go_enter Tryz.func56, Tryz.ntmps56
    go_wp2
    go_loopw [12] (fun i wr => ∃ k : Nat, k ≤ ls.length ∧ i = .int .i64 k ∧ Below w.heap.size w wr ∧ Hid (∀ j (h : j < ls.length), j < k → labErr least ls[j] = 0)) (fun i _ => ls.length - (intOf i).toNat)
    case atStart => exact ⟨0, by omega, rfl, Below.refl _ _, hide (fun j _ h => by omega)⟩
    case round =>
      obtain ⟨k, hk, rfl, hb, HD⟩ := hrel
      have hbs := hb.size
      by_cases hlt : k < ls.length
      · obtain ⟨lb, lo, rfl, hlB, c0, c1⟩ := hcells k hlt
        have d0 := (hb.cell (p := ⟨lb, lo + k * 2, none⟩) hlB).trans c0
        have d1 := (hb.cell (p := ⟨lb, lo + k * 2 + 1, none⟩) hlB).trans c1
        clear c0 c1 hcells
        obtain ⟨hl0, hl1⟩ := HI.out _ (List.getElem_mem hlt)
        obtain ⟨x, HX⟩ : ∃ x : Lab, Hid (ls[k] = x) := ⟨_, hide rfl⟩
        rw [HX.out] at d0 d1 hl0 hl1
        cases hn : nameB x.1 with
        | false =>
          have HN := hide hn
          clear hn
          go_wp2_with (go_at_call 70; refine (isName_any _ _ (by unfold maxLen; omega)).mono ?_; rintro e w' ⟨rfl, rfl⟩; rw [HN.out])
          go_ret
          exact ⟨ret_int (by rw [eachErr_first h20 hlt HD.out (e := 1) (by rw [HX.out, labErr_name HN.out]) (by omega)]; rfl), hb.alloc hbs _⟩
        | true =>
          have HN := hide hn
          clear hn
          by_cases hs : x.2.length < least
          · have hs' : (x.2.length : Int) < least := by omega
            go_wp2_with (go_at_call 70; refine (isName_any _ _ (by unfold maxLen; omega)).mono ?_; rintro e w' ⟨rfl, rfl⟩; rw [HN.out])
            go_ret
            exact ⟨ret_int (by rw [eachErr_first h20 hlt HD.out (e := 1) (by rw [HX.out, labErr_short hs]) (by omega)]; rfl), hb.alloc hbs _⟩
          · have hs' : ¬ (x.2.length : Int) < least := by omega
            by_cases hg : x.2.length ≤ 100
            · have hg' : ¬ (100 : Int) < x.2.length := by omega
              go_wp2_with (go_at_call 70; refine (isName_any _ _ (by unfold maxLen; omega)).mono ?_; rintro e w' ⟨rfl, rfl⟩; rw [HN.out])
              go_roundw
              case rel => exact ⟨k + 1, by omega, by go_num, hb.alloc hbs _, hide (fun j hj h => by
                by_cases e : j = k
                · subst e; rw [HX.out]; exact labErr_ok HN.out (by omega) hg
                · exact HD.out j hj (by omega))⟩
              case measure => simp [intOf]; omega
            · have hg' : (100 : Int) < x.2.length := by omega
              go_wp2_with (go_at_call 70; refine (isName_any _ _ (by unfold maxLen; omega)).mono ?_; rintro e w' ⟨rfl, rfl⟩; rw [HN.out])
              go_ret
              exact ⟨ret_int (by rw [eachErr_first h20 hlt HD.out (e := 2) (by rw [HX.out, labErr_long HN.out (by omega) hg]) (by omega)]; rfl), hb.alloc hbs _⟩
      · go_wp2
        go_ret
        exact ⟨ret_int (by rw [eachErr, if_pos h20, eachB_all (fun j hj => HD.out j hj (by omega))]; rfl), hb⟩
  · go_enter Tryz.func56, Tryz.ntmps56
    go_wp2
    go_ret
    exact ⟨ret_int (by rw [eachErr, if_neg h20]; rfl), Below.refl _ _⟩

set_option maxRecDepth 20000 in
set_option maxHeartbeats 2000000 in
theorem twice_any (w : World) (v : Value) (ls : List Lab) (hv : readsLabels w w.heap.size v ls) (hlen : ls.length ≤ 20) (hin : ∀ x ∈ ls, x.1.length ≤ 40) :
    Calls Tryz.prog 57 #[v] w fun e w' => e = .returned (.bool (twiceB ls)) ∧ Below w.heap.size w w' := by
  obtain ⟨ao, cp, rfl, hcells⟩ := id hv
  have HI := hide hin
  clear hin hv
  have hmm := @run_makeMap Tryz.prog
  go_enter Tryz.func57, Tryz.ntmps57
  go_wp2
  go_loopw [11] (fun i wr => ∃ k : Nat, k ≤ ls.length ∧ i = .int .i64 k ∧ Hid (wr.ownsMap Tryz.prog 9 unitElem w.heap.size k (setOf (H := Unit) (.agg []) (metL ls k))) ∧ Below w.heap.size w wr ∧ w.heap.size + 1 ≤ wr.heap.size ∧ Hid (∀ i j (hi : i < ls.length) (hj : j < ls.length), i < j → j < k → ls[i].1 ≠ ls[j].1)) (fun i _ => ls.length - (intOf i).toNat)
  case atStart => exact ⟨0, by omega, rfl, hide (World.ownsMap_made _ _ _ _), (Below.refl _ _).alloc (Nat.le_refl _) _, by simp, hide (fun _ j _ _ _ h => by omega)⟩
  case round =>
    obtain ⟨k, hk, rfl, HM, hb, hws, HD⟩ := hrel
    have hbs := hb.size
    by_cases hlt : k < ls.length
    · obtain ⟨lb, lo, rfl, hlB, c0, c1⟩ := hcells k hlt
      have d0 := (hb.cell (p := ⟨lb, lo + k * 2, none⟩) hlB).trans c0
      have d1 := (hb.cell (p := ⟨lb, lo + k * 2 + 1, none⟩) hlB).trans c1
      clear c0 c1 hcells
      have hl0 := HI.out _ (List.getElem_mem hlt)
      have hkey : keyOf Tryz.prog 9 (.string (bs ls[k].1)) = some (.string ls[k].1) := by rw [keyOf_string_mk Tryz.underlying9 (by rw [bs_size]; unfold maxLen; omega), bs_data]
      have HA := hide (@met_has ls k ls[k].1)
      cases hh : Maps.has (setOf (H := Unit) (.agg []) (metL ls k)) (Lit.string ls[k].1) with
      | true =>
        have HH := hide hh
        clear hh
        have HT : Hid (twiceB ls = true) := by
          obtain ⟨j, hj, hjk, e⟩ := HA.out.1 HH.out
          exact twiceB_true hj hlt hjk e
        go_wp2_with (at_lookup; refine wpList_lookup_own_unit _ rfl _ _ 41 rfl 9 48 Tryz.keyLaw Tryz.underlying41 (Tryz.zeroUnit _) w.heap.size k _ rfl (HM.out.alloc _) _ _ rfl hkey ?_; rw [HH.out])
        go_ret
        exact ⟨ret_bool HT.out.symm, (hb.alloc hbs _).alloc (by simp; omega) _⟩
      | false =>
        have HH := hide hh
        clear hh
        go_wp2_with (first
          | (at_lookup; refine wpList_lookup_own_unit _ rfl _ _ 41 rfl 9 48 Tryz.keyLaw Tryz.underlying41 (Tryz.zeroUnit _) w.heap.size k _ rfl (HM.out.alloc _) _ _ rfl hkey ?_; rw [HH.out])
          | (at_mapUpdate; refine wpList_mapUpdate_ownD _ rfl _ _ _ 41 rfl 9 48 Tryz.keyLaw Tryz.underlying41 (unitElem (H := Unit)) w.heap.size k _ rfl ((HM.out.alloc _).alloc _) (by unfold maxLen; omega) _ _ _ rfl rfl hkey _ [] unitElem_mk ?_; intro w1 hown1 hgrow1 hdr1))
        have s1 := hgrow1.size
        simp at s1
        go_roundw
        case rel =>
          refine ⟨k + 1, by omega, by go_num, hide ?_, ((hb.alloc hbs _).alloc (by simp; omega) _).grown hgrow1 hdr1 (by simp; omega) (fun j hj => by cases hj; exact Nat.le_refl _), by omega, hide (fun i j hi hj hij hjk => ?_)⟩
          · rw [metL_succ hlt, setOf_snoc]; exact hown1
          · by_cases e : j = k
            · subst e
              intro he
              have := HA.out.2 ⟨i, hi, hij, he⟩
              rw [HH.out] at this
              cases this
            · exact HD.out i j hi hj hij (by omega)
        case measure => simp [intOf]; omega
    · have HT : Hid (twiceB ls = false) := twiceB_false.2 fun i j hi hj hij => HD.out i j hi hj hij (by omega)
      go_wp2
      go_ret
      exact ⟨ret_bool HT.out.symm, hb⟩

set_option maxRecDepth 20000 in
set_option maxHeartbeats 1000000 in
theorem check_any (w : World) (v : Value) (ls : List Lab) (hv : readsLabels w w.heap.size v ls) (hlen : ls.length ≤ 9223372036854775807) (hin : lensOk ls) :
    Calls Tryz.prog 40 #[v] w fun e w' => e = .returned (.int .i64 (checkB ls)) ∧ Below w.heap.size w w' := by
  obtain ⟨ao, cp, hvv⟩ := readsLabels_len hv
  have HV := hide hv
  have HI := hide hin
  clear hv hin
  subst hvv
  go_enter Tryz.func40, Tryz.ntmps40
  go_wp2_with fail
  refine (checkEach_any w _ ls 1 HV.out hlen HI.out (by omega)).mono ?_
  rintro e w1 ⟨rfl, hb1⟩
  by_cases h0 : eachErr 1 ls = 0
  · obtain ⟨hl, hn⟩ := eachErr_names h0
    have HN := hide hn
    have H0 := hide h0
    clear hn
    rw [h0]
    clear h0
    go_wp2_with fail
    refine (twice_any w1 _ ls (readsLabels_mono (readsLabels_below HV.out hb1) hb1.size) hl (fun x hx => (HN.out x hx).1)).mono ?_
    rintro e w2 ⟨rfl, hb2⟩
    have hb02 : Below w.heap.size w w2 := hb1.trans (hb2.mono hb1.size)
    cases ht : twiceB ls with
    | true =>
      have HT := hide ht
      clear ht
      go_wp2
      go_ret
      exact ⟨ret_int (by unfold checkB; rw [if_pos H0.out, if_neg (by rw [HT.out]; simp)]; rfl), hb02⟩
    | false =>
      have HT := hide ht
      clear ht
      go_wp2_with fail
      refine (rise_any w2 _ ls (readsLabels_mono (readsLabels_below HV.out hb02) hb02.size) hl).mono ?_
      rintro e w3 ⟨rfl, n, rfl⟩
      have hb03 : Below w.heap.size w (w2.drewN n) := hb02.drewN n
      cases hr : riseB ls with
      | true =>
        have HR := hide hr
        clear hr
        go_wp2
        go_ret
        exact ⟨ret_int (by unfold checkB; rw [if_pos H0.out, if_pos HT.out, if_pos HR.out]; rfl), hb03⟩
      | false =>
        have HR := hide hr
        clear hr
        go_wp2
        go_ret
        exact ⟨ret_int (by unfold checkB; rw [if_pos H0.out, if_pos HT.out, if_neg (by rw [HR.out]; simp)]; rfl), hb03⟩
  · have H0 := hide h0
    have hne : ((eachErr 1 ls : Int) != 0) = true := by simpa using h0
    clear h0
    go_wp2
    go_ret
    exact ⟨ret_int (by unfold checkB; rw [if_neg H0.out]), hb1⟩

set_option maxRecDepth 20000 in
set_option maxHeartbeats 1000000 in
theorem compare1_any (w : World) (x y : Lab) : Calls Tryz.prog 93 #[.agg #[.string (bs x.1), .string (bs x.2)], .agg #[.string (bs y.1), .string (bs y.2)]] w fun e w' => e = .returned (.int .i64 (cmpLab x y)) ∧ Below w.heap.size w w' := by
  have HC := hide (cmpLab_or x y)
  obtain ⟨w2, HW⟩ : ∃ w2, Hid ((w.alloc (.cells #[.string (bs x.1), .string (bs x.2)] 69)).alloc (.cells #[.string (bs y.1), .string (bs y.2)] 69) = w2) := ⟨_, hide rfl⟩
  have hb2 : Below w.heap.size w w2 := by rw [← HW.out]; exact ((Below.refl _ _).alloc (Nat.le_refl _) _).alloc (by simp) _
  have c0 : w2.cell? ⟨w.heap.size, 0, none⟩ = some (.string (bs x.1)) := by rw [← HW.out]; simp
  have c1 : w2.cell? ⟨w.heap.size, 1, none⟩ = some (.string (bs x.2)) := by rw [← HW.out]; simp
  have c2 : w2.cell? ⟨w.heap.size + 1, 0, none⟩ = some (.string (bs y.1)) := by rw [← HW.out]; simp
  have c3 : w2.cell? ⟨w.heap.size + 1, 1, none⟩ = some (.string (bs y.2)) := by rw [← HW.out]; simp
  have hsz : w.heap.size + 1 < w2.heap.size := by rw [← HW.out]; simp
  have HB := hide hb2
  clear hb2
  generalize hr1 : cmpStr x.1 y.1 = r1 at HC
  generalize hr2 : cmpStr x.2 y.2 = r2 at HC
  have q1 : ∀ W, Calls Tryz.prog 78 #[.string (bs x.1), .string (bs y.1)] W fun e w' => e = .returned (.int .i64 r1) ∧ w' = W := fun W => by rw [← hr1]; exact cmpString_any _ _ W
  have q2 : ∀ W, Calls Tryz.prog 78 #[.string (bs x.2), .string (bs y.2)] W fun e w' => e = .returned (.int .i64 r2) ∧ w' = W := fun W => by rw [← hr2]; exact cmpString_any _ _ W
  have Q1 := hide q1
  have Q2 := hide q2
  clear q1 q2 hr1 hr2
  go_enter Tryz.func93, Tryz.ntmps93
  go_wp2_with fail
  rw [HW.out]
  go_region_held3 (fun w' => w'.cell? ⟨w.heap.size, 0, none⟩ = some (.string (bs x.1)) ∧ w'.cell? ⟨w.heap.size, 1, none⟩ = some (.string (bs x.2)) ∧ w'.cell? ⟨w.heap.size + 1, 0, none⟩ = some (.string (bs y.1)) ∧ w'.cell? ⟨w.heap.size + 1, 1, none⟩ = some (.string (bs y.2))) (go_keep)
    ((first
      | (go_at_call_of 78 (Value.string (bs x.1)); refine (Q1.out _).mono ?_; rintro e w' ⟨rfl, rfl⟩)
      | (go_at_call_of 78 (Value.string (bs x.2)); refine (Q2.out _).mono ?_; rintro e w' ⟨rfl, rfl⟩)
      | (go_at_call 94; refine (cmpOr_any _ _ r1 r2 3 (by exact heap_alloc_new _ _)).mono ?_; rintro e w' ⟨rfl, rfl⟩)))
  go_wp2
  go_ret
  have hfin := HB.out.trans (Below.mono (Grow.alloc (Grow.refl w2) (.cells #[.int .i64 r1, .int .i64 r2] 3)) (show w.heap.size ≤ w2.heap.size by omega))
  exact ⟨ret_int (by rw [HC.out]), hfin.draws (by simp) rfl⟩

set_option maxRecDepth 20000 in
set_option maxHeartbeats 2000000 in
theorem compareFunc_any (w : World) (va vb : Value) (a b : List Lab) (ha : readsLabels w w.heap.size va a) (hb : readsLabels w w.heap.size vb b) (hal : a.length ≤ 20) (hbl : b.length ≤ 20) :
    Calls Tryz.prog 92 #[va, vb, .func (.func 93) #[] #[]] w fun e w' => e = .returned (.int .i64 (ordB a b)) ∧ Below w.heap.size w w' := by
  obtain ⟨ao, ac, rfl, acells⟩ := id ha
  obtain ⟨bo, bc, rfl, bcells⟩ := id hb
  clear ha hb
  go_enter Tryz.func92, Tryz.ntmps92
  go_wp2
  go_loopw [13] (fun i wr => ∃ k : Nat, k ≤ a.length ∧ k ≤ b.length ∧ i = .int .i64 k ∧ Below w.heap.size w wr ∧ Hid (∀ j (ha : j < a.length) (hb : j < b.length), j < k → a[j] = b[j])) (fun i _ => a.length - (intOf i).toNat)
  case atStart => exact ⟨0, by omega, by omega, rfl, Below.refl _ _, hide (fun j _ _ h => by omega)⟩
  case round =>
    obtain ⟨k, hka, hkb, rfl, hbw, HD⟩ := hrel
    have hbs := hbw.size
    by_cases hlt : k < a.length
    · by_cases hlt2 : k < b.length
      · obtain ⟨ab, aof, rfl, haB, a0, a1⟩ := acells k hlt
        obtain ⟨bb, bof, rfl, hbB, b0, b1⟩ := bcells k hlt2
        have d0 := (hbw.cell (p := ⟨ab, aof + k * 2, none⟩) haB).trans a0
        have d1 := (hbw.cell (p := ⟨ab, aof + k * 2 + 1, none⟩) haB).trans a1
        have e0 := (hbw.cell (p := ⟨bb, bof + k * 2, none⟩) hbB).trans b0
        have e1 := (hbw.cell (p := ⟨bb, bof + k * 2 + 1, none⟩) hbB).trans b1
        clear a0 a1 b0 b1 acells bcells
        have HAt := hide (ordB_at hlt hlt2 HD.out)
        have HEq : Hid (a[k] = b[k] ↔ cmpLab a[k] b[k] = 0) := cmpLab_zero.symm
        obtain ⟨x, HX⟩ : ∃ x : Lab, Hid (a[k] = x) := ⟨_, hide rfl⟩
        obtain ⟨y, HY⟩ : ∃ y : Lab, Hid (b[k] = y) := ⟨_, hide rfl⟩
        rw [HX.out] at d0 d1 HAt HEq
        rw [HY.out] at e0 e1 HAt HEq
        have hg := (Grow.refl wr).alloc (.cells #[.string (bs x.1), .string (bs x.2)] 69)
        have f0 := (hg.cell (p := ⟨bb, bof + k * 2, none⟩) (show bb < wr.heap.size by omega)).trans e0
        have f1 := (hg.cell (p := ⟨bb, bof + k * 2 + 1, none⟩) (show bb < wr.heap.size by omega)).trans e1
        clear hg
        have q1 : ∀ W, Calls Tryz.prog 93 #[.agg #[.string (bs x.1), .string (bs x.2)], .agg #[.string (bs y.1), .string (bs y.2)]] W fun e w' => e = .returned (.int .i64 (cmpLab x y)) ∧ Below W.heap.size W w' := fun W => compare1_any W x y
        generalize cmpLab x y = r at q1 HAt HEq
        have Q1 := hide q1
        clear q1
        by_cases hr : r = 0
        · subst hr
          go_wp2_with fail
          refine (Q1.out _).mono ?_
          rintro e w2 ⟨rfl, hb2⟩
          go_wp2
          go_roundw
          case rel => exact ⟨k + 1, by omega, by omega, by go_num, ((hbw.alloc hbs _).alloc (by simp; omega) _).trans (hb2.mono (by simp; omega)), hide (fun j ha hb h => by
            by_cases e : j = k
            · subst e; rw [HX.out, HY.out]; exact HEq.out.2 (by trivial)
            · exact HD.out j ha hb (by omega))⟩
          case measure => simp [intOf]; omega
        · have hr' : (r != 0) = true := by simpa using hr
          have HR := hide hr
          clear hr
          go_wp2_with fail
          refine (Q1.out _).mono ?_
          rintro e w2 ⟨rfl, hb2⟩
          go_wp2
          go_ret
          exact ⟨ret_int (by rw [HAt.out (fun e => HR.out (HEq.out.1 e))]), ((hbw.alloc hbs _).alloc (by simp; omega) _).trans (hb2.mono (by simp; omega))⟩
      · have HS := hide (ordB_short (a := a) (b := b) (fun j ha hb => HD.out j ha hb (by omega)))
        obtain rfl : k = b.length := by omega
        obtain ⟨ab, aof, rfl, haB, a0, a1⟩ := acells b.length hlt
        have d0 := (hbw.cell (p := ⟨ab, aof + b.length * 2, none⟩) haB).trans a0
        have d1 := (hbw.cell (p := ⟨ab, aof + b.length * 2 + 1, none⟩) haB).trans a1
        clear a0 a1 acells bcells
        go_wp2
        go_ret
        exact ⟨ret_int (by rw [HS.out, if_neg (by omega), if_pos (by omega)]), hbw.alloc hbs _⟩
    · have HS := hide (ordB_short (a := a) (b := b) (fun j ha hb => HD.out j ha hb (by omega)))
      by_cases h1 : a.length < b.length
      · have h1' : (a.length : Int) < b.length := by omega
        go_wp2
        go_ret
        exact ⟨ret_int (by rw [HS.out, if_pos (by omega)]), hbw⟩
      · have h1' : ¬ (a.length : Int) < b.length := by omega
        go_wp2
        go_ret
        exact ⟨ret_int (by rw [HS.out, if_neg (by omega), if_neg (by omega)]), hbw⟩

set_option maxRecDepth 20000 in
set_option maxHeartbeats 1000000 in
theorem checkLists_any (w : World) (g : Nat) (va vb : Value) (t : TypeId) (a b : List Lab) (hg : w.heap[g]? = some (.cells #[va, vb] t (0, 0))) (ha : readsLabels w w.heap.size va a) (hb : readsLabels w w.heap.size vb b) (hal : a.length ≤ 9223372036854775807) (hai : lensOk a) (hbl : b.length ≤ 9223372036854775807) (hbi : lensOk b) :
    Calls Tryz.prog 91 #[.slice (some ⟨g, 0, none⟩) 2 2] w fun e w' => e = .returned (.int .i64 (cmpErr a b)) ∧ Below w.heap.size w w' := by
  obtain ⟨c0, c1⟩ := two_cells hg
  have hgl := lt_of_block hg
  obtain ⟨ao, ac, hva⟩ := readsLabels_len ha
  obtain ⟨bo, bc, hvb⟩ := readsLabels_len hb
  have HA := hide ha
  have HB := hide hb
  have HAI := hide hai
  have HBI := hide hbi
  clear ha hb hai hbi hg
  subst hva hvb
  go_enter Tryz.func91, Tryz.ntmps91
  go_wp2
  refine wp_loop_rounds 3 ?_
  rw [rounds_succ]
  go_wp2_with fail
  refine (check_any w _ a HA.out hal HAI.out).mono ?_
  rintro e w1 ⟨rfl, hb1⟩
  have hs1 := hb1.size
  by_cases h0 : checkB a = 0
  · have H0 := hide h0
    have d1 := (hb1.cell (p := ⟨g, 1, none⟩) hgl).trans c1
    rw [h0]
    clear h0 c0 c1
    go_wp2
    rw [rounds_succ]
    go_wp2_with fail
    refine (check_any w1 _ b (readsLabels_mono (readsLabels_below HB.out hb1) hs1) hbl HBI.out).mono ?_
    rintro e w2 ⟨rfl, hb2⟩
    have hb02 : Below w.heap.size w w2 := hb1.trans (hb2.mono hs1)
    by_cases h1 : checkB b = 0
    · have H1 := hide h1
      rw [h1]
      clear h1
      go_wp2
      rw [rounds_succ]
      go_wp2
      go_ret
      exact ⟨ret_int (by rw [cmpErr_b H0.out, H1.out]; rfl), hb02⟩
    · have H1 := hide h1
      have hne : ((checkB b : Int) != 0) = true := by simpa using h1
      clear h1
      go_wp2
      go_ret
      exact ⟨ret_int (by rw [cmpErr_b H0.out]), hb02⟩
  · have H0 := hide h0
    have hne : ((checkB a : Int) != 0) = true := by simpa using h0
    clear h0
    go_wp2
    go_ret
    exact ⟨ret_int (by rw [cmpErr_a H0.out]), hb1⟩

set_option maxRecDepth 20000 in
set_option maxHeartbeats 1000000 in
theorem compare_any (w : World) (va vb : Value) (a b : List Lab) (ha : readsLabels w w.heap.size va a) (hal : a.length ≤ 9223372036854775807) (hai : lensOk a) (hb : readsLabels w w.heap.size vb b) (hbl : b.length ≤ 9223372036854775807) (hbi : lensOk b) :
    Calls Tryz.prog 68 #[va, vb] w fun e w' => e = .returned (.tuple #[.int .i64 (cmpAns a b), .int .i64 (cmpErr a b)]) ∧ Below w.heap.size w w' := by
  obtain ⟨ao, ac, hva⟩ := readsLabels_len ha
  obtain ⟨bo, bc, hvb⟩ := readsLabels_len hb
  have HA := hide ha
  have HB := hide hb
  have HAI := hide hai
  have HBI := hide hbi
  clear ha hb hai hbi
  subst hva hvb
  obtain ⟨w1, HW⟩ : ∃ w1, Hid (w.alloc (.cells #[.slice ao a.length ac, .slice bo b.length bc] 34) = w1) := ⟨_, hide rfl⟩
  have hb1 : Below w.heap.size w w1 := by rw [← HW.out]; exact (Below.refl _ _).alloc (Nat.le_refl _) _
  have hg : w1.heap[w.heap.size]? = some (.cells #[.slice ao a.length ac, .slice bo b.length bc] 34 (0, 0)) := by rw [← HW.out]; exact heap_alloc_new w _
  have HG := hide hg
  have hs1 := hb1.size
  have HB1 := hide hb1
  clear hg hb1
  go_enter Tryz.func68, Tryz.ntmps68
  go_wp2_with fail
  rw [HW.out]
  refine (checkLists_any w1 w.heap.size _ _ _ a b HG.out (readsLabels_mono (readsLabels_below HA.out HB1.out) hs1) (readsLabels_mono (readsLabels_below HB.out HB1.out) hs1) hal HAI.out hbl HBI.out).mono ?_
  rintro e w2 ⟨rfl, hb2⟩
  have hb02 : Below w.heap.size w w2 := HB1.out.trans (hb2.mono hs1)
  by_cases h0 : cmpErr a b = 0
  · obtain ⟨hca, hcb⟩ := cmpErr_zero.1 h0
    have h20a := (eachErr_names (checkB_zero.1 hca).1).1
    have h20b := (eachErr_names (checkB_zero.1 hcb).1).1
    have H0 := hide h0
    rw [h0]
    clear h0 hca hcb
    go_wp2_with fail
    refine (compareFunc_any w2 _ _ a b (readsLabels_mono (readsLabels_below HA.out hb02) hb02.size) (readsLabels_mono (readsLabels_below HB.out hb02) hb02.size) h20a h20b).mono ?_
    rintro e w3 ⟨rfl, hb3⟩
    go_wp2
    go_ret2
    exact ⟨ret2 (vint (by rw [cmpAns_ok H0.out])) (vint (by rw [H0.out]; rfl)), hb02.trans (hb3.mono hb02.size)⟩
  · have H0 := hide h0
    have hne : ((cmpErr a b : Int) != 0) = true := by simpa using h0
    clear h0
    go_wp2
    go_ret2
    exact ⟨ret2 (vint (by rw [cmpAns_no H0.out])) rfl, hb02⟩


end Go.Proofs.YtdlmgkncneifaaaGreat.Ld
