/- record: the reader's points. -/
import Derived.Laws.OwnMore
import Derived.Test.YtnlkfehnmijimaaProg
import Derived.Test.YtnlkfehnmijimaaKit
import Derived.Test.YtnlkfehnmijimaaSpec
import Derived.Test.YtnlkfehnmijimaaReg
import Derived.Test.YtnlkfehnmijimaaRcA
import Derived.Test.YtnlkfehnmijimaaRcM
import Derived.Test.YtnlkfehnmijimaaRcN
import Derived.Test.YtnlkfehnmijimaaRcS
import Derived.Test.YtnlkfehnmijimaaRcT
import Derived.Test.YtnlkfehnmijimaaRcU
import Derived.Test.YtnlkfehnmijimaaRcV
import Derived.BigQuiet
set_option linter.unusedVariables false
set_option linter.unusedSimpArgs false
namespace Go.Proofs.Ytnlkfehnmijimaa.Rc
open Go.RowKit
attribute [local go_sem] bs_size bs_toList bs_append bs_get bs_extract

/-- What is read behind what was read. -/
def bindO {α β : Type} (o : Option (α × List UInt8)) (f : α → List UInt8 → Option (β × List UInt8)) : Option (β × List UInt8) := o.bind fun x => f x.1 x.2
theorem cutN_len {s r : List UInt8} {n : Nat} (h : cutN s = some (n, r)) : r.length ≤ s.length := Nat.le_of_lt (cutN_lt h).2
theorem mapO_some {α β : Type} {f : α → β} {o : Option (α × List UInt8)} {y : β} {r : List UInt8} (h : mapO f o = some (y, r)) : ∃ x, o = some (x, r) ∧ y = f x := by
  unfold mapO at h
  cases o with
  | none => cases h
  | some x => simp at h; exact ⟨x.1, by rw [← h.2], h.1.symm⟩
def cutP (s : List UInt8) : Option (Pnt × List UInt8) := bindO (mapO numI (cutN s)) fun r s1 => bindO (mapO timeI (cutN s1)) fun t s2 => mapO (fun b => (r, t, b)) (cut8 s2)
def pntV (p : Pnt) : Value := .agg #[.int .i64 p.1, .int .i64 p.2.1, .int .u64 (p.2.2 : Nat)]

theorem set3 {w : World} {b : Nat} {cs : Array Value} {t : TypeId} (h : w.heap[b]? = some (.cells cs t (0, 0))) (i : Nat) (u : Value) : (w.setCell ⟨b, i, none⟩ u).heap[b]? = some (.cells (cs.setIfInBounds i u) t (0, 0)) := by
  simp only [World.setCell, Array.getElem?_modify, h, if_true, Option.map_some]
  rfl
theorem infoPnt : (Try.prog.info? 57).map (·.size) = some 3 := by kernel_rfl
/-- A block that is new may be written. -/
theorem KI.setNew {b : Nat} {w w' : World} (h : KI b w w') {g : Nat} (hg : w.heap.size ≤ g) (i : Nat) (u : Value) : KI b w (w'.setCell ⟨g, i, none⟩ u) :=
  ⟨h.os, h.tape, h.output, by simpa [World.setCell] using h.size, fun k hk hn => (Below.heap_setCell _ _ _ _ (by show k ≠ g; omega)).trans (h.block k hk hn)⟩
theorem InAt.other {w : World} {b : Nat} {s : List UInt8} (h : InAt w b s) {g : Nat} (hn : g ≠ b) (i : Nat) (u : Value) : InAt (w.setCell ⟨g, i, none⟩ u) b s := (Below.heap_setCell _ _ _ _ (by show b ≠ g; exact Ne.symm hn)).trans h

set_option maxRecDepth 20000 in
set_option maxHeartbeats 4000000 in
theorem point_r (w : World) (b : Nat) (s : List UInt8) (h : InAt w b s) (hs : s.length ≤ 140737488355328) :
    Calls Try.prog 48 #[.pointer (some ⟨b, 0, none⟩)] w (readAs b pntV (cutP s) w) := by
  obtain ⟨V, eV, gV, hV⟩ := laid_at w #[.int .i64 0, .int .i64 0, .int .u64 0] 57
  have HGV := hide gV
  have HV := hide hV
  have hbl := lt_of_block h
  have hne : w.heap.size ≠ b := by omega
  have HN := hide (refNumber_r V b s (h.grow gV) hs)
  clear gV hV h
  unfold readAs at HN ⊢
  unfold cutP bindO
  cases h1 : mapO numI (cutN s) with
  | none =>
    rw [h1] at HN
    simp only at HN
    clear h1
    go_enter Try.func48, Try.ntmps48
    go_wp2_with fail
    refine HN.out.mono ?_
    rintro e w1 ⟨hk, E, hE, rfl⟩
    exact ⟨rfl, (KI.grow HGV.out).trans hk, E, hE, rfl⟩
  | some x1 =>
    obtain ⟨r, s1⟩ := x1
    obtain ⟨n1, hn1, _⟩ := mapO_some h1
    have hl1 := cutN_len hn1
    rw [h1] at HN
    simp only [Option.bind_some] at HN ⊢
    have HTM : Hid (∀ W, InAt W b s1 → Calls Try.prog 61 #[.pointer (some ⟨b, 0, none⟩)] W (readAs b (fun n : Int => .int .i64 n) (mapO timeI (cutN s1)) W)) := hide fun W hW => time_r W b s1 hW (by omega)
    unfold readAs at HTM
    clear h1 hn1
    cases h2 : mapO timeI (cutN s1) with
    | none =>
      rw [h2] at HTM
      simp only at HTM
      clear h2
      go_enter Try.func48, Try.ntmps48
      go_wp2_with fail
      refine HN.out.mono ?_
      rintro e w1 ⟨hk, rfl, hi⟩
      have HK := hide ((KI.grow HGV.out).trans hk)
      have HT := hide (HTM.out w1 hi)
      clear hk hi HN HTM
      go_wp2_with fail
      refine HT.out.mono ?_
      rintro e w2 ⟨hk, E, hE, rfl⟩
      exact ⟨rfl, HK.out.trans hk, E, hE, rfl⟩
    | some x2 =>
      obtain ⟨t, s2⟩ := x2
      obtain ⟨n2, hn2, _⟩ := mapO_some h2
      have hl2 := cutN_len hn2
      rw [h2] at HTM
      simp only [Option.bind_some] at HTM ⊢
      have HEI : Hid (∀ W, InAt W b s2 → Calls Try.prog 62 #[.pointer (some ⟨b, 0, none⟩)] W (readAs b (fun n => .int .u64 (n : Nat)) (cut8 s2) W)) := hide fun W hW => eight_r W b s2 hW (by omega)
      unfold readAs at HEI
      unfold mapO
      clear h2 hn2
      cases h3 : cut8 s2 with
      | none =>
        rw [h3] at HEI
        simp only at HEI
        clear h3
        go_enter Try.func48, Try.ntmps48
        go_wp2_with fail
        refine HN.out.mono ?_
        rintro e w1 ⟨hk, rfl, hi⟩
        have HK := hide ((KI.grow HGV.out).trans hk)
        have HT := hide (HTM.out w1 hi)
        clear hk hi HN HTM
        go_wp2_with fail
        refine HT.out.mono ?_
        rintro e w2 ⟨hk, rfl, hi⟩
        have HK2 := hide (HK.out.trans hk)
        have HE := hide (HEI.out w2 hi)
        clear hk hi HT HEI
        go_wp2_with fail
        refine HE.out.mono ?_
        rintro e w3 ⟨hk, E, hE, rfl⟩
        exact ⟨rfl, HK2.out.trans hk, E, hE, rfl⟩
      | some x3 =>
        obtain ⟨bits, s3⟩ := x3
        rw [h3] at HEI
        simp only [Option.map_some] at HEI ⊢
        clear h3
        go_enter Try.func48, Try.ntmps48
        go_wp2_with fail
        refine HN.out.mono ?_
        rintro e w1 ⟨hk, rfl, hi⟩
        have HK := hide ((KI.grow HGV.out).trans hk)
        have HB1 := hide (hk.get HV.out hne)
        have HT := hide (HTM.out w1 hi)
        clear hk hi HN HTM
        go_wp2_with fail
        refine HT.out.mono ?_
        rintro e w2 ⟨hk, rfl, hi⟩
        have HK2 := hide (HK.out.trans hk)
        have HB2 := hide (hk.get HB1.out hne)
        have HE := hide (HEI.out w2 hi)
        clear hk hi HT HEI
        go_wp2_with fail
        refine HE.out.mono ?_
        rintro e w3 ⟨hk, rfl, hi⟩
        have HK3 := hide (HK2.out.trans hk)
        have HB3 := hide (hk.get HB2.out hne)
        have HI3 := hide hi
        obtain ⟨c0, c1, c2⟩ := three_of HB3.out
        have z0 : w3.frozen? ⟨w.heap.size, 0, none⟩ = false := by simp only [World.frozen?, HB3.out]; rfl
        have z1 : w3.frozen? ⟨w.heap.size, 1, none⟩ = false := by simp only [World.frozen?, HB3.out]; rfl
        have z2 : w3.frozen? ⟨w.heap.size, 2, none⟩ = false := by simp only [World.frozen?, HB3.out]; rfl
        clear hk hi HE eV
        go_wp2
        have HF := set3 (set3 (set3 HB3.out 0 (.int .i64 (numI n1))) 1 (.int .i64 (timeI n2))) 2 (.int .u64 (bits : Nat))
        refine bodyPost_ret (v := .agg #[.int .i64 (numI n1), .int .i64 (timeI n2), .int .u64 (bits : Nat)]) (results_cell_row (p := 2) (ty := 57) rfl _ _ w.heap.size _ _ _ _ rfl HF Try.underlying57 rfl infoPnt) rfl ?_
        exact ⟨((HK3.out.setNew (Nat.le_refl _) _ _).setNew (Nat.le_refl _) _ _).setNew (Nat.le_refl _) _ _, by subst_vars; rfl, ((HI3.out.other hne _ _).other hne _ _).other hne _ _⟩
end Go.Proofs.Ytnlkfehnmijimaa.Rc
