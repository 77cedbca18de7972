/- 1 texts in one. -/
import Derived.Laws.OwnMore
import Derived.Test.YtndpjdmfkhjiiaaGreatDoorProg
import Derived.Test.YtndpjdmfkhjiiaaGreatDoorK06d19db
import Derived.Test.YtndpjdmfkhjiiaaGreatDoorKf4a3d8c
import Derived.Test.YtndpjdmfkhjiiaaGreatDoorKd196569
import Derived.Test.YtndpjdmfkhjiiaaGreatDoorKab9fbe2
import Derived.BigQuiet
set_option linter.unusedVariables false
set_option linter.unusedSimpArgs false
namespace Go.Proofs.YtndpjdmfkhjiiaaGreatDoor
open Go.RowKit
attribute [local go_sem] bs_size bs_toList bs_append bs_get bs_extract
/-- A reader in a block: its mask, where it is, how many groups, and its fault. -/
def readerAt (w : World) (rb : Nat) (m : List UInt8) (i g e a : Nat) : Prop :=
 w.heap[rb]? = some (.cells #[.string (bs m), .int .i64 i, .int .i64 g, .int .i64 e, .int .i64 a] 109 (0, 0))
theorem five_cells {w : World} {b : Nat} {x0 x1 x2 x3 x4 : Value} {t : TypeId} (h : w.heap[b]? = some (.cells #[x0, x1, x2, x3, x4] t (0, 0))) :
  w.cell? ⟨b, 0, none⟩ = some x0 ∧ w.cell? ⟨b, 1, none⟩ = some x1 ∧ w.cell? ⟨b, 2, none⟩ = some x2 ∧ w.cell? ⟨b, 3, none⟩ = some x3 ∧ w.cell? ⟨b, 4, none⟩ = some x4 := by simp [World.cell?, h]
theorem readerAt.draw {w : World} {rb n : Nat} {m : List UInt8} {i g e a : Nat} (h : readerAt w rb m i g e a) : readerAt (w.drewN n) rb m i g e a := h
theorem readerAt.grow {w w' : World} {rb : Nat} {m : List UInt8} {i g e a : Nat} (h : readerAt w rb m i g e a) (k : Grow w w') : readerAt w' rb m i g e a := k.get h
theorem readerAt.on {w : World} {rb : Nat} {m : List UInt8} {i i' g e a : Nat} (h : readerAt w rb m i g e a) (u : Value) (hu : u = .int .i64 (i' : Int)) : readerAt (w.setCell ⟨rb, 1, none⟩ u) rb m i' g e a := by
 unfold readerAt
 rw [set_blk h, hu]
 rfl
set_option maxRecDepth 20000 in
theorem wrong_any (w : World) (rb : Nat) (m : List UInt8) (i g : Nat) (er at' : Int) (e a : Nat) (he : er = e) (ha : at' = a) (hr : readerAt w rb m i g 0 0) :
  Calls Tryz.prog 75 #[.pointer (some ⟨rb, 0, none⟩), .int .i64 er, .int .i64 at'] w fun en w' => en = .returned (.tuple #[]) ∧ Kept2 rb rb w w' ∧ readerAt w' rb m i g e a := by
 obtain ⟨c0, c1, c2, c3, c4⟩ := five_cells hr
 have f3 := not_frozen (k := 3) hr
 have f4 := not_frozen (k := 4) hr
 have HR := hide hr
 clear hr c0 c1 c2
 subst he ha
 go_enter Tryz.func75, Tryz.ntmps75
 go_wp2
 go_end0
 refine ⟨rfl, (Kept2.setT _ _).trans (Kept2.setT _ _), ?_⟩
 unfold readerAt
 rw [set_blk (set_blk HR.out _)]
 rfl
set_option maxRecDepth 20000 in
set_option maxHeartbeats 1000000 in
theorem ris_any (w : World) (rb : Nat) (m : List UInt8) (i g e a : Nat) (ci : Int) (c : Nat) (hci : ci = c) (hc : c < 256) (hr : readerAt w rb m i g e a) :
  Calls Tryz.prog 105 #[.pointer (some ⟨rb, 0, none⟩), .int .u8 ci] w fun en w' => en = .returned (.bool (isAt m i c)) ∧ ∃ n, w' = w.drewN n := by
 subst hci
 obtain ⟨c0, c1, c2, c3, c4⟩ := five_cells hr
 clear hr c2 c3 c4
 go_enter Tryz.func105, Tryz.ntmps105
 by_cases hlt : i < m.length
 ·
  obtain ⟨d, hd⟩ : ∃ d, m[i] = d := ⟨_, rfl⟩
  have hget : m[i]? = some d := by rw [List.getElem?_eq_getElem hlt, hd]
  have hdec : decide ((i : Int) < m.length) = true := by simpa using hlt
  by_cases hq : d.toNat = c
  ·
   have HB : Hid (isAt m i c = true) := by show _ = _; simp [isAt, hget, hq]
   have hqq : ((d.toNat : Int) == (c : Int)) = true := by simp [hq]
   clear hget hq
   go_wp2
   go_quiet (fail)
   go_wp2
   go_ret
   exact ⟨ret_bool HB.out.symm, _, rfl⟩
  ·
   have HB : Hid (isAt m i c = false) := by show _ = _; simp [isAt, hget, hq]
   have hqq : ((d.toNat : Int) == (c : Int)) = false := by simp; omega
   clear hget hq
   go_wp2
   go_quiet (fail)
   go_wp2
   go_ret
   exact ⟨ret_bool HB.out.symm, _, rfl⟩
 ·
  have hdec : decide ((i : Int) < m.length) = false := by simpa using hlt
  have HB : Hid (isAt m i c = false) := by
   show _ = _
   unfold isAt
   rw [List.getElem?_eq_none_iff.2 (by omega)]
  go_wp2
  go_quiet (fail)
  go_wp2
  go_ret
  exact ⟨ret_bool HB.out.symm, _, rfl⟩
set_option maxRecDepth 20000 in
set_option maxHeartbeats 1000000 in
theorem rmay_any (w : World) (rb : Nat) (m : List UInt8) (i g e a : Nat) (ci : Int) (c : Nat) (hci : ci = c) (hc : c < 256) (hm : m.length ≤ 1000000) (hr : readerAt w rb m i g e a) :
  Calls Tryz.prog 109 #[.pointer (some ⟨rb, 0, none⟩), .int .u8 ci] w fun en w' => en = .returned (.bool (isAt m i c)) ∧ Kept2 rb rb w w' ∧ readerAt w' rb m (onIf (isAt m i c) i) g e a := by
 have HR := hide hr
 clear hr
 subst hci
 go_enter Tryz.func109, Tryz.ntmps109
 go_wp2_with fail
 refine (ris_any w rb m i g e a (c : Int) c rfl hc HR.out).mono ?_
 rintro en w1 ⟨rfl, n, rfl⟩
 obtain ⟨b, HB⟩ : ∃ b, Hid (isAt m i c = b) := ⟨_, hide rfl⟩
 rw [HB.out]
 cases b
 ·
  go_wp2
  go_ret
  exact ⟨ret_bool HB.out.symm, (Kept2.refl rb rb w).drewN, by rw [HB.out]; exact HR.out⟩
 ·
  have hi := isAt_lt HB.out
  have hR2 : readerAt (w.drewN n) rb m i g e a := HR.out
  obtain ⟨c0, c1, c2, c3, c4⟩ := five_cells hR2
  have f1 := not_frozen (k := 1) hR2
  have HR2 := hide hR2
  clear c0 c2 c3 c4 hR2
  go_wp2
  go_ret
  exact ⟨ret_bool HB.out.symm, (Kept2.refl rb rb w).drewN.trans (Kept2.setT _ _), by rw [HB.out]; exact HR2.out.on _ (by go_num)⟩
/-- Is the byte that comes one of these? -/
def amongB (these m : List UInt8) (i : Nat) : Bool := these.any fun c => isAt m i c.toNat
theorem amongB_comes (these m : List UInt8) (i : Nat) : amongB these m i = comesB these m i := by
 unfold amongB comesB isAt
 cases m[i]? with
 | none => simp
 | some d =>
  rw [Bool.eq_iff_iff]
  simp only [List.any_eq_true, decide_eq_true_eq, List.contains_iff_mem]
  constructor
  ·
   rintro ⟨c, h1, h2⟩
   rwa [UInt8.toNat_inj.1 h2]
  ·
   exact fun h => ⟨d, h, rfl⟩
set_option maxRecDepth 20000 in
set_option maxHeartbeats 1000000 in
theorem ramong_any (w : World) (rb : Nat) (m these : List UInt8) (i g e a : Nat) (hm : these.length ≤ 1000000) (hr : readerAt w rb m i g e a) :
  Calls Tryz.prog 107 #[.pointer (some ⟨rb, 0, none⟩), .string (bs these)] w fun en w' => en = .returned (.bool (comesB these m i)) ∧ ∃ n, w' = w.drewN n := by
 rw [← amongB_comes]
 have HR : Hid (∀ n, readerAt (w.drewN n) rb m i g e a) := hide fun n => hr
 clear hr
 go_enter Tryz.func107, Tryz.ntmps107
 go_wp2
 go_loopw [5] (fun v wr => ∃ k : Nat, k ≤ these.length ∧ v = .int .i64 k ∧ (∃ n, wr = w.drewN n) ∧ Hid (amongB (these.take k) m i = false)) (fun v _ => these.length - (intOf v).toNat)
 case atStart => exact ⟨0, by omega, rfl, ⟨0, rfl⟩, hide (by simp [amongB])⟩
 case round =>
  obtain ⟨k, hk, rfl, ⟨n, rfl⟩, HF⟩ := hrel
  by_cases hlt : k < these.length
  ·
   obtain ⟨c, hcc⟩ : ∃ c, these[k] = c := ⟨_, rfl⟩
   have hkk : (k : Int) < these.length := by omega
   have HC : Hid (these[k]? = some c) := by show _ = _; rw [List.getElem?_eq_getElem hlt, hcc]
   have hcl := c.toNat_lt
   go_wp2_with fail
   refine (ris_any _ rb m i g e a (c.toNat : Int) c.toNat rfl (by omega) (HR.out n)).mono ?_
   rintro en w1 ⟨rfl, n2, rfl⟩
   have htake : these.take (k + 1) = these.take k ++ [c] := by rw [List.take_add_one, HC.out]; rfl
   rcases hb : isAt m i c.toNat with _ | _
   ·
    have HN : Hid (amongB (these.take (k + 1)) m i = false) := by
     show _ = _
     have := HF.out
     unfold amongB at this ⊢
     rw [htake, List.any_append, this]
     simp [hb]
    clear hb htake hcc
    go_wp2
    refine ⟨⟨k + 1, by omega, by go_num, ⟨n + n2, ?_⟩, HN⟩, ?_⟩
    ·
     rfl
    ·
     simp [intOf]; omega
   ·
    have HN : Hid (amongB these m i = true) := by
     show _ = _
     unfold amongB
     rw [List.any_eq_true]
     exact ⟨c, List.mem_of_getElem? HC.out, hb⟩
    clear hb htake hcc
    go_wp2
    go_ret
    exact ⟨ret_bool HN.out.symm, n + n2, rfl⟩
  ·
   obtain rfl : k = these.length := by omega
   have hF := HF.out
   rw [List.take_length] at hF
   have HF2 := hide hF
   clear hF HF
   go_wp2
   go_ret
   exact ⟨ret_bool HF2.out.symm, n, rfl⟩
end Go.Proofs.YtndpjdmfkhjiiaaGreatDoor
