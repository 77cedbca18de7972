/- 9 texts in one. -/
import Derived.Laws.OwnMore
import Derived.Test.YtkaeogldielkfaaGreatKdfef78d
import Derived.Test.YtkaeogldielkfaaGreatProg
import Derived.Test.YtkaeogldielkfaaGreatKabe2b5f
import Derived.Test.YtkaeogldielkfaaGreatKa96aaab
import Derived.Test.YtkaeogldielkfaaGreatK7731767
import Derived.Test.YtkaeogldielkfaaGreatKd1f2bd3
import Derived.BigQuiet
import Derived.Test.YtkaeogldielkfaaGreatKa7e3600
set_option linter.unusedVariables false
set_option linter.unusedSimpArgs false
namespace Go.Proofs.YtkaeogldielkfaaGreat.Rc
open Go.RowKit
attribute [local go_sem] bs_size bs_toList bs_append bs_get bs_extract
/-- A ref's number, as an int has it. -/
def numI (n : Nat) : Int := if n < 9223372036854775808 then n else (n : Int) - 18446744073709551616
theorem wrap_numI {n : Nat} (h : n < 18446744073709551616) : IntKind.i64.wrap (n : Int) = numI n := by
  rw [IntKind.wrap_i64]
  unfold numI
  split <;> omega
def mapO {α β : Type} (f : α → β) (o : Option (α × List UInt8)) : Option (β × List UInt8) := o.map fun x => (f x.1, x.2)
set_option maxHeartbeats 1000000 in
theorem refNumber_r (w : World) (b : Nat) (s : List UInt8) (h : InAt w b s) (hs : s.length ≤ 140737488355328) :
    Calls Tryz.prog 97 #[.pointer (some ⟨b, 0, none⟩)] w (readAs b (fun n : Int => .int .i64 n) (mapO numI (cutN s)) w) := by
  have HN := hide (number_r w b s h hs)
  unfold readAs at HN ⊢
  cases hc : cutN s with
  | none =>
    rw [hc] at HN
    simp only at HN
    clear hc h
    go_enter Tryz.func97, Tryz.ntmps97
    go_wp2_with fail
    refine HN.out.mono ?_
    rintro e w1 ⟨hk, E, hE, rfl⟩
    exact ⟨rfl, hk, E, hE, rfl⟩
  | some x =>
    obtain ⟨n, r⟩ := x
    have hlt := (cutN_lt hc).1
    rw [hc] at HN
    simp only [mapO, Option.map_some] at HN ⊢
    have hw := wrap_numI hlt
    clear hc h hlt
    go_enter Tryz.func97, Tryz.ntmps97
    go_wp2_with fail
    refine HN.out.mono ?_
    rintro e w1 ⟨hk, rfl, hi⟩
    go_wp2
    go_ret
    exact ⟨hk, rfl, hi⟩
/-- A time's number, turned back. -/
def timeI (n : Nat) : Int := if n % 2 = 1 then -((n / 2 : Nat) : Int) - 1 else ((n / 2 : Nat) : Int)
set_option maxHeartbeats 1000000 in
theorem time_r (w : World) (b : Nat) (s : List UInt8) (h : InAt w b s) (hs : s.length ≤ 140737488355328) :
    Calls Tryz.prog 100 #[.pointer (some ⟨b, 0, none⟩)] w (readAs b (fun n : Int => .int .i64 n) (mapO timeI (cutN s)) w) := by
  have HN := hide (number_r w b s h hs)
  unfold readAs at HN ⊢
  cases hc : cutN s with
  | none =>
    rw [hc] at HN
    simp only at HN
    clear hc h
    go_enter Tryz.func100, Tryz.ntmps100
    go_wp2_with fail
    refine HN.out.mono ?_
    rintro e w1 ⟨hk, E, hE, rfl⟩
    exact ⟨rfl, hk, E, hE, rfl⟩
  | some x =>
    obtain ⟨n, r⟩ := x
    have hlt := (cutN_lt hc).1
    rw [hc] at HN
    simp only [mapO, Option.map_some] at HN ⊢
    have hdiv : Int.tdiv (n : Int) 2 = ((n / 2 : Nat) : Int) := by rw [Int.tdiv_eq_ediv_of_nonneg (by omega)]; omega
    have hmod : Int.tmod (n : Int) 2 = ((n % 2 : Nat) : Int) := by rw [Int.tmod_eq_emod_of_nonneg (by omega)]; omega
    have hw : IntKind.i64.wrap ((n / 2 : Nat) : Int) = ((n / 2 : Nat) : Int) := by rw [IntKind.wrap_i64]; omega
    by_cases ho : n % 2 = 1
    · have ht : timeI n = -((n / 2 : Nat) : Int) - 1 := if_pos ho
      have hob : (((n % 2 : Nat) : Int) == 1) = true := by simp; omega
      have HT := hide ht
      clear hc h ho ht
      go_enter Tryz.func100, Tryz.ntmps100
      go_wp2_with fail
      refine HN.out.mono ?_
      rintro e w1 ⟨hk, rfl, hi⟩
      go_wp2
      go_ret
      exact ⟨hk, by rw [HT.out, Int.natCast_ediv]; rfl, hi⟩
    · have ht : timeI n = ((n / 2 : Nat) : Int) := if_neg ho
      have hob : (((n % 2 : Nat) : Int) == 1) = false := by rw [beq_eq_false_iff_ne]; omega
      have HT := hide ht
      clear hc h ho ht
      go_enter Tryz.func100, Tryz.ntmps100
      go_wp2_with fail
      refine HN.out.mono ?_
      rintro e w1 ⟨hk, rfl, hi⟩
      go_wp2
      go_ret
      exact ⟨hk, by rw [HT.out, Int.natCast_ediv]; rfl, hi⟩
/-- A text, as it is read. -/
def cutT (s : List UInt8) : Option (List UInt8 × List UInt8) := match cutN s with
  | none => none
  | some x => if x.1 ≤ x.2.length then some (x.2.take x.1, x.2.drop x.1) else none
theorem cutT_lt {s t r : List UInt8} (h : cutT s = some (t, r)) : t.length + r.length < s.length := by
  unfold cutT at h
  cases hc : cutN s with
  | none => rw [hc] at h; cases h
  | some x =>
    obtain ⟨n, q⟩ := x
    rw [hc] at h
    simp only at h
    have := (cutN_lt hc).2
    by_cases hl : n ≤ q.length
    · rw [if_pos hl] at h
      cases h
      rw [List.length_take, List.length_drop]
      omega
    · rw [if_neg hl] at h; cases h
set_option maxHeartbeats 1000000 in
theorem cloneR_any (s : List UInt8) (w : World) (hs : s.length ≤ 140737488355328) : Calls Tryz.prog 117 #[.string (bs s)] w fun e w' => e = .returned (.string (bs s)) ∧ Grow w w' := by
  have hc := Tryz.stringslite_Clone (bs s) w (by rw [bs_size]; omega)
  have HC := hide hc
  clear hc
  go_enter Tryz.func117, Tryz.ntmps117
  go_wp2_with (go_at_call 144; refine HC.out.mono ?_; rintro e w' ⟨rfl, hb⟩)
  go_ret
  exact ⟨rfl, hb⟩
set_option maxHeartbeats 2000000 in
theorem bytes_r (w : World) (b : Nat) (s : List UInt8) (h : InAt w b s) (hs : s.length ≤ 140737488355328) :
    Calls Tryz.prog 99 #[.pointer (some ⟨b, 0, none⟩)] w (readAs b (fun t => .string (bs t)) (cutT s) w) := by
  have HN := hide (number_r w b s h hs)
  unfold readAs at HN ⊢
  unfold cutT
  cases hc : cutN s with
  | none =>
    rw [hc] at HN
    simp only at HN
    clear hc h
    go_enter Tryz.func99, Tryz.ntmps99
    go_wp2_with fail
    refine HN.out.mono ?_
    rintro e w1 ⟨hk, E, hE, rfl⟩
    exact ⟨rfl, hk, E, hE, rfl⟩
  | some x =>
    obtain ⟨n, q⟩ := x
    obtain ⟨hlt, hql⟩ := cutN_lt hc
    rw [hc] at HN
    simp only at HN ⊢
    have HTK : Hid (∀ W, InAt W b q → Calls Tryz.prog 64 #[.pointer (some ⟨b, 0, none⟩), .int .u64 n] W (readAs b (fun t => .string (bs t)) (if n ≤ q.length then some (q.take n, q.drop n) else none) W)) := hide fun W hW => take_any W b n q hW (by omega) hlt
    unfold readAs at HTK
    clear hc h
    by_cases hl : n ≤ q.length
    · rw [if_pos hl]
      have HCL := hide fun W => cloneR_any (q.take n) W (by rw [List.length_take]; omega)
      simp only [if_pos hl] at HTK
      clear hl
      go_enter Tryz.func99, Tryz.ntmps99
      go_wp2_with fail
      refine HN.out.mono ?_
      rintro e w1 ⟨hk, rfl, hi⟩
      have HT := hide (HTK.out w1 hi)
      have HK := hide hk
      clear hk hi HTK HN
      go_wp2_with fail
      refine HT.out.mono ?_
      rintro e w2 ⟨hk2, rfl, hi2⟩
      have HK2 := hide (HK.out.trans hk2)
      have HI2 := hide hi2
      clear hk2 hi2 HT
      go_wp2_with fail
      refine (HCL.out w2).mono ?_
      rintro e w3 ⟨rfl, hg3⟩
      have HG3 := hide hg3
      clear hg3
      go_wp2
      go_ret
      exact ⟨HK2.out.trans (KI.grow HG3.out), rfl, HI2.out.grow HG3.out⟩
    · rw [if_neg hl]
      simp only [if_neg hl] at HTK
      clear hl
      go_enter Tryz.func99, Tryz.ntmps99
      go_wp2_with fail
      refine HN.out.mono ?_
      rintro e w1 ⟨hk, rfl, hi⟩
      have HT := hide (HTK.out w1 hi)
      have HK := hide hk
      clear hk hi HTK HN
      go_wp2_with fail
      refine HT.out.mono ?_
      rintro e w2 ⟨hk2, E, hE, rfl⟩
      exact ⟨rfl, HK.out.trans hk2, E, hE, rfl⟩
/-- A word of its bytes, the lowest first. -/
def wordI : List UInt8 → Nat
  | [] => 0
  | c :: l => c.toNat + 256 * wordI l
theorem wordI_lt : ∀ l : List UInt8, wordI l < 256 ^ l.length
  | [] => by simp [wordI]
  | c :: l => by
    have ih := wordI_lt l
    have hc : c.toNat < 256 := c.toNat_lt
    rw [wordI, List.length_cons, Nat.pow_succ]
    omega
theorem wordI_snoc : ∀ (l : List UInt8) (c : UInt8), wordI (l ++ [c]) = wordI l + c.toNat * 256 ^ l.length
  | [], c => by simp [wordI]
  | x :: l, c => by
    rw [List.cons_append, wordI, wordI, wordI_snoc l c, List.length_cons, Nat.pow_succ, Nat.mul_add, ← Nat.mul_assoc c.toNat, Nat.mul_comm 256 (c.toNat * 256 ^ l.length)]
    omega
theorem bits_or_u64 (a b : Nat) (ha : a < 18446744073709551616) (hb : b < 18446744073709551616) : bits .or .u64 (a : Int) (b : Int) = ((a ||| b : Nat) : Int) := by
  have hx : a ||| b < 2 ^ 64 := Nat.or_lt_two_pow (by omega) (by omega)
  have h1 : (BitVec.ofInt 64 (a : Int)).toNat = a := by
    rw [BitVec.ofInt_natCast, BitVec.toNat_ofNat]; exact Nat.mod_eq_of_lt (by omega)
  have h2 : (BitVec.ofInt 64 (b : Int)).toNat = b := by
    rw [BitVec.ofInt_natCast, BitVec.toNat_ofNat]; exact Nat.mod_eq_of_lt (by omega)
  show IntKind.u64.wrap ((BitVec.ofInt 64 (a : Int) ||| BitVec.ofInt 64 (b : Int)).toNat : Int) = _
  rw [BitVec.toNat_or, h1, h2, IntKind.wrap_u64]
  omega
theorem or_step {a c j : Nat} (ha : a < 256 ^ j) (hc : c < 256) (hj : j < 8) : bits .or .u64 (a : Int) (IntKind.u64.wrap (IntKind.u64.wrap (c : Int) * 2 ^ (8 * j))) = ((a + c * 256 ^ j : Nat) : Int) := by
  have e2 : (256 : Nat) ^ j = 2 ^ (8 * j) := by rw [Nat.pow_mul]
  have e3 : (2 : Int) ^ (8 * j) = ((2 ^ (8 * j) : Nat) : Int) := by simp
  have hp : c * 2 ^ (8 * j) < 18446744073709551616 := by
    have h1 : c * 2 ^ (8 * j) < 256 * 2 ^ (8 * j) := Nat.mul_lt_mul_of_pos_right hc (Nat.pos_of_ne_zero (by simp))
    have h2 : 256 * 2 ^ (8 * j) = 2 ^ (8 * (j + 1)) := by rw [show 8 * (j + 1) = 8 * j + 8 by omega, Nat.pow_add]; omega
    have h3 : 2 ^ (8 * (j + 1)) ≤ 2 ^ 64 := Nat.pow_le_pow_right (by decide) (by omega)
    omega
  have ha2 : a < 18446744073709551616 := by
    have h3 : 2 ^ (8 * j) ≤ 2 ^ 64 := Nat.pow_le_pow_right (by decide) (by omega)
    omega
  have w1 : IntKind.u64.wrap (c : Int) = c := by rw [IntKind.wrap_u64]; omega
  have w2 : IntKind.u64.wrap ((c * 2 ^ (8 * j) : Nat) : Int) = ((c * 2 ^ (8 * j) : Nat) : Int) := by rw [IntKind.wrap_u64]; omega
  rw [w1, e3, ← Int.natCast_mul, w2, bits_or_u64 a _ ha2 hp, e2]
  rw [e2] at ha
  have h := Nat.two_pow_add_eq_or_of_lt ha c
  rw [Nat.or_comm, Nat.mul_comm c, ← h, Nat.add_comm]
def cut8 (s : List UInt8) : Option (Nat × List UInt8) := if 8 ≤ s.length then some (wordI (s.take 8), s.drop 8) else none
set_option maxRecDepth 20000 in
set_option maxHeartbeats 4000000 in
theorem eight_r (w : World) (b : Nat) (s : List UInt8) (h : InAt w b s) (hs : s.length ≤ 140737488355328) :
    Calls Tryz.prog 101 #[.pointer (some ⟨b, 0, none⟩)] w (readAs b (fun n => .int .u64 (n : Nat)) (cut8 s) w) := by
  have HT := hide (take_any w b 8 s h hs (by omega))
  unfold readAs at HT ⊢
  unfold cut8
  by_cases hl : 8 ≤ s.length
  · rw [if_pos hl] at HT ⊢
    simp only at HT ⊢
    obtain ⟨t, ht⟩ : ∃ t, s.take 8 = t := ⟨_, rfl⟩
    have htl : t.length = 8 := by rw [← ht, List.length_take]; omega
    rw [ht] at HT ⊢
    clear h ht hl
    go_enter Tryz.func101, Tryz.ntmps101
    go_wp2_with fail
    refine HT.out.mono ?_
    rintro e w1 ⟨hk, rfl, hi⟩
    have HK := hide hk
    have HI := hide hi
    clear hk hi HT
    go_wp2
    go_loopw [4, 8] (fun nv jv wr => ∃ j : Nat, j ≤ 8 ∧ jv = .int .i64 j ∧ nv = .int .u64 (wordI (t.take j) : Nat) ∧ wr = w1) (fun _ jv _ => 8 - (intOf jv).toNat)
    case atStart => exact ⟨0, by omega, rfl, rfl, rfl⟩
    case round =>
      obtain ⟨j, hj, rfl, rfl, rfl⟩ := hrel
      by_cases hlt : j < 8
      · have hlti : (j : Int) < 8 := by omega
        have hjt : j < t.length := by omega
        have htk : t.take (j + 1) = t.take j ++ [t[j]] := List.take_succ_eq_append_getElem hjt
        have hws := wordI_snoc (t.take j) t[j]
        rw [← htk, show (t.take j).length = j by rw [List.length_take]; omega] at hws
        have HWS := hide hws
        obtain ⟨c, HC⟩ : ∃ c, Hid (t[j] = c) := ⟨_, hide rfl⟩
        have hjl : (j : Int) < (t.length : Int) := by omega
        have hwl := wordI_lt (t.take j)
        rw [show (t.take j).length = j by rw [List.length_take]; omega] at hwl
        have hor := or_step hwl (t[j]).toNat_lt hlt
        have HOR := hide hor
        clear hws htk hor hwl
        go_wp2
        go_roundw
        case rel => exact ⟨j + 1, by omega, by go_num, by rw [HOR.out, HWS.out], trivial⟩
        case measure => simp [intOf]; omega
      · obtain rfl : j = 8 := by omega
        rw [List.take_of_length_le (by omega)]
        go_wp2
        go_ret
        exact ⟨HK.out, rfl, HI.out⟩
  · rw [if_neg hl] at HT ⊢
    simp only at HT
    clear h hl
    go_enter Tryz.func101, Tryz.ntmps101
    go_wp2_with fail
    refine HT.out.mono ?_
    rintro e w1 ⟨hk, E, hE, rfl⟩
    exact ⟨rfl, hk, E, hE, rfl⟩
/-- What is read behind what was read. -/
def bindO {α β : Type} (o : Option (α × List UInt8)) (f : α → List UInt8 → Option (β × List UInt8)) : Option (β × List UInt8) := o.bind fun x => f x.1 x.2
theorem cutN_len {s r : List UInt8} {n : Nat} (h : cutN s = some (n, r)) : r.length ≤ s.length := Nat.le_of_lt (cutN_lt h).2
theorem mapO_some {α β : Type} {f : α → β} {o : Option (α × List UInt8)} {y : β} {r : List UInt8} (h : mapO f o = some (y, r)) : ∃ x, o = some (x, r) ∧ y = f x := by
  unfold mapO at h
  cases o with
  | none => cases h
  | some x => simp at h; exact ⟨x.1, by rw [← h.2], h.1.symm⟩
def cutP (s : List UInt8) : Option (Pnt × List UInt8) := bindO (mapO numI (cutN s)) fun r s1 => bindO (mapO timeI (cutN s1)) fun t s2 => mapO (fun b => (r, t, b)) (cut8 s2)
def pntV (p : Pnt) : Value := .agg #[.int .i64 p.1, .int .i64 p.2.1, .int .u64 (p.2.2 : Nat)]
theorem set3 {w : World} {b : Nat} {cs : Array Value} {t : TypeId} (h : w.heap[b]? = some (.cells cs t (0, 0))) (i : Nat) (u : Value) : (w.setCell ⟨b, i, none⟩ u).heap[b]? = some (.cells (cs.setIfInBounds i u) t (0, 0)) := by
  simp only [World.setCell, Array.getElem?_modify, h, if_true, Option.map_some]
  rfl
theorem infoPnt : (Tryz.prog.info? 64).map (·.size) = some 3 := by kernel_rfl
/-- A block that is new may be written. -/
theorem KI.setNew {b : Nat} {w w' : World} (h : KI b w w') {g : Nat} (hg : w.heap.size ≤ g) (i : Nat) (u : Value) : KI b w (w'.setCell ⟨g, i, none⟩ u) :=
  ⟨h.os, h.tape, h.output, by simpa [World.setCell] using h.size, fun k hk hn => (Below.heap_setCell _ _ _ _ (by show k ≠ g; omega)).trans (h.block k hk hn)⟩
theorem InAt.other {w : World} {b : Nat} {s : List UInt8} (h : InAt w b s) {g : Nat} (hn : g ≠ b) (i : Nat) (u : Value) : InAt (w.setCell ⟨g, i, none⟩ u) b s := (Below.heap_setCell _ _ _ _ (by show b ≠ g; exact Ne.symm hn)).trans h
set_option maxRecDepth 20000 in
set_option maxHeartbeats 4000000 in
theorem point_r (w : World) (b : Nat) (s : List UInt8) (h : InAt w b s) (hs : s.length ≤ 140737488355328) :
    Calls Tryz.prog 69 #[.pointer (some ⟨b, 0, none⟩)] w (readAs b pntV (cutP s) w) := by
  obtain ⟨V, eV, gV, hV⟩ := laid_at w #[.int .i64 0, .int .i64 0, .int .u64 0] 64
  have HGV := hide gV
  have HV := hide hV
  have hbl := lt_of_block h
  have hne : w.heap.size ≠ b := by omega
  have HN := hide (refNumber_r V b s (h.grow gV) hs)
  clear gV hV h
  unfold readAs at HN ⊢
  unfold cutP bindO
  cases h1 : mapO numI (cutN s) with
  | none =>
    rw [h1] at HN
    simp only at HN
    clear h1
    go_enter Tryz.func69, Tryz.ntmps69
    go_wp2_with fail
    refine HN.out.mono ?_
    rintro e w1 ⟨hk, E, hE, rfl⟩
    exact ⟨rfl, (KI.grow HGV.out).trans hk, E, hE, rfl⟩
  | some x1 =>
    obtain ⟨r, s1⟩ := x1
    obtain ⟨n1, hn1, _⟩ := mapO_some h1
    have hl1 := cutN_len hn1
    rw [h1] at HN
    simp only [Option.bind_some] at HN ⊢
    have HTM : Hid (∀ W, InAt W b s1 → Calls Tryz.prog 100 #[.pointer (some ⟨b, 0, none⟩)] W (readAs b (fun n : Int => .int .i64 n) (mapO timeI (cutN s1)) W)) := hide fun W hW => time_r W b s1 hW (by omega)
    unfold readAs at HTM
    clear h1 hn1
    cases h2 : mapO timeI (cutN s1) with
    | none =>
      rw [h2] at HTM
      simp only at HTM
      clear h2
      go_enter Tryz.func69, Tryz.ntmps69
      go_wp2_with fail
      refine HN.out.mono ?_
      rintro e w1 ⟨hk, rfl, hi⟩
      have HK := hide ((KI.grow HGV.out).trans hk)
      have HT := hide (HTM.out w1 hi)
      clear hk hi HN HTM
      go_wp2_with fail
      refine HT.out.mono ?_
      rintro e w2 ⟨hk, E, hE, rfl⟩
      exact ⟨rfl, HK.out.trans hk, E, hE, rfl⟩
    | some x2 =>
      obtain ⟨t, s2⟩ := x2
      obtain ⟨n2, hn2, _⟩ := mapO_some h2
      have hl2 := cutN_len hn2
      rw [h2] at HTM
      simp only [Option.bind_some] at HTM ⊢
      have HEI : Hid (∀ W, InAt W b s2 → Calls Tryz.prog 101 #[.pointer (some ⟨b, 0, none⟩)] W (readAs b (fun n => .int .u64 (n : Nat)) (cut8 s2) W)) := hide fun W hW => eight_r W b s2 hW (by omega)
      unfold readAs at HEI
      unfold mapO
      clear h2 hn2
      cases h3 : cut8 s2 with
      | none =>
        rw [h3] at HEI
        simp only at HEI
        clear h3
        go_enter Tryz.func69, Tryz.ntmps69
        go_wp2_with fail
        refine HN.out.mono ?_
        rintro e w1 ⟨hk, rfl, hi⟩
        have HK := hide ((KI.grow HGV.out).trans hk)
        have HT := hide (HTM.out w1 hi)
        clear hk hi HN HTM
        go_wp2_with fail
        refine HT.out.mono ?_
        rintro e w2 ⟨hk, rfl, hi⟩
        have HK2 := hide (HK.out.trans hk)
        have HE := hide (HEI.out w2 hi)
        clear hk hi HT HEI
        go_wp2_with fail
        refine HE.out.mono ?_
        rintro e w3 ⟨hk, E, hE, rfl⟩
        exact ⟨rfl, HK2.out.trans hk, E, hE, rfl⟩
      | some x3 =>
        obtain ⟨bits, s3⟩ := x3
        rw [h3] at HEI
        simp only [Option.map_some] at HEI ⊢
        clear h3
        go_enter Tryz.func69, Tryz.ntmps69
        go_wp2_with fail
        refine HN.out.mono ?_
        rintro e w1 ⟨hk, rfl, hi⟩
        have HK := hide ((KI.grow HGV.out).trans hk)
        have HB1 := hide (hk.get HV.out hne)
        have HT := hide (HTM.out w1 hi)
        clear hk hi HN HTM
        go_wp2_with fail
        refine HT.out.mono ?_
        rintro e w2 ⟨hk, rfl, hi⟩
        have HK2 := hide (HK.out.trans hk)
        have HB2 := hide (hk.get HB1.out hne)
        have HE := hide (HEI.out w2 hi)
        clear hk hi HT HEI
        go_wp2_with fail
        refine HE.out.mono ?_
        rintro e w3 ⟨hk, rfl, hi⟩
        have HK3 := hide (HK2.out.trans hk)
        have HB3 := hide (hk.get HB2.out hne)
        have HI3 := hide hi
        obtain ⟨c0, c1, c2⟩ := three_of HB3.out
        have z0 : w3.frozen? ⟨w.heap.size, 0, none⟩ = false := by simp only [World.frozen?, HB3.out]; rfl
        have z1 : w3.frozen? ⟨w.heap.size, 1, none⟩ = false := by simp only [World.frozen?, HB3.out]; rfl
        have z2 : w3.frozen? ⟨w.heap.size, 2, none⟩ = false := by simp only [World.frozen?, HB3.out]; rfl
        clear hk hi HE eV
        go_wp2
        have HF := set3 (set3 (set3 HB3.out 0 (.int .i64 (numI n1))) 1 (.int .i64 (timeI n2))) 2 (.int .u64 (bits : Nat))
        refine bodyPost_ret (v := .agg #[.int .i64 (numI n1), .int .i64 (timeI n2), .int .u64 (bits : Nat)]) (results_cell_row (p := 2) (ty := 64) rfl _ _ w.heap.size _ _ _ _ rfl HF Tryz.underlying64 rfl infoPnt) rfl ?_
        exact ⟨((HK3.out.setNew (Nat.le_refl _) _ _).setNew (Nat.le_refl _) _ _).setNew (Nat.le_refl _) _ _, by subst_vars; rfl, ((HI3.out.other hne _ _).other hne _ _).other hne _ _⟩
end Go.Proofs.YtkaeogldielkfaaGreat.Rc
namespace Go.Proofs.YtkaeogldielkfaaGreat.Rc
open Go.RowKit Lb
attribute [local go_sem] bs_size bs_toList bs_append bs_get bs_extract
/-- Blocks of another type stay as they are. -/
def typedKept (e : TypeId) (w w' : World) : Prop := ∀ (k : Nat) (c : Array Value) (t : TypeId) (fr : Nat × Nat), w.heap[k]? = some (.cells c t fr) → e ≠ t → w'.heap[k]? = some (.cells c t fr)
/-- One element more behind a row of the call's own. -/
theorem app_one {w : World} {B T ty e n nb size bytes : Nat} {i0 : TypeInfo} {z v : Value} {xs news : List Value} (hu : Tryz.prog.underlying T = some (.slice e)) (hi0 : Tryz.prog.info? e = some i0) (hz0 : i0.zero = some z) (hz1 : i0.size = size) (hz2 : i0.bytes = bytes) (hzs : z.cells.size = size) (hsz : 0 < size)
    (ho : w.ownsRow B e size v n xs) (hnb : w.heap[nb]? = some (.cells news.toArray e (0, 0))) (hnl : news.length = size) (h1 : ∀ u ∈ news, u.oneCell' = true) (hn : n ≤ 1000000) (hby : bytes ≤ 1000) (hB : B ≤ w.heap.size) :
    ∃ ao' cp' w3, (Builtin.append_ #[T, T] ty #[v, .slice (some ⟨nb, 0, none⟩) 1 1]).run Tryz.prog w = .ok (.slice ao' (n + 1) cp') w3 ∧ w3.ownsRow B e size (.slice ao' (n + 1) cp') (n + 1) (xs ++ news) ∧ Below B w w3 ∧ typedKept e w w3 := by
  obtain ⟨v', w3, hrun, hown3, hgrow, _⟩ := run_append_own (P := Tryz.prog) w B T ty e i0 z size bytes hu hi0 hz0 hz1 hz2 hzs hsz _ n xs ho ⟨nb, 0, none⟩ 1 1 news (by rw [hnl, Nat.one_mul]) (fun j u hj => by
    have hlt : j < news.length := by
      rcases Nat.lt_or_ge j news.length with h | h
      · exact h
      · rw [List.getElem?_eq_none h] at hj; cases hj
    rw [Addr.add_lit]
    simp only [World.cell?, hnb, Nat.zero_add]
    simpa [List.getElem?_eq_getElem hlt] using hj) h1 (by unfold maxLen; omega) (by
      have : (n + 1) * bytes ≤ 1000001 * 1000 := Nat.mul_le_mul (by omega) hby
      omega) hB
  obtain ⟨ao', cp', rfl⟩ := own_shape hown3
  exact ⟨ao', cp', w3, hrun, hown3, (Below.refl B w).grown hgrow hB (fun k hk => (ho.lt k hk).1), fun k c t fr h ht => grown_block hgrow h (own_apart ho h ht)⟩
theorem KI.typed {b : Nat} {w w' : World} (h : KI b w w') {k : Nat} {c : Array Value} {t : TypeId} {fr : Nat × Nat} (hk : w.heap[k]? = some (.cells c t fr)) (hn : k ≠ b) : w'.heap[k]? = some (.cells c t fr) := h.get hk hn
/-- Below Z nothing has turned but block b. -/
def KZ (Z b : Nat) (w w' : World) : Prop := w'.os = w.os ∧ w'.tape = w.tape ∧ w'.output = w.output ∧ w.heap.size ≤ w'.heap.size ∧ ∀ k, k < Z → k ≠ b → w'.heap[k]? = w.heap[k]?
theorem KZ.refl (Z b : Nat) (w : World) : KZ Z b w w := ⟨rfl, rfl, rfl, Nat.le_refl _, fun _ _ _ => rfl⟩
theorem KZ.trans {Z b : Nat} {a c d : World} (h : KZ Z b a c) (k : KZ Z b c d) : KZ Z b a d :=
  ⟨k.1.trans h.1, k.2.1.trans h.2.1, k.2.2.1.trans h.2.2.1, Nat.le_trans h.2.2.2.1 k.2.2.2.1, fun i hi hn => (k.2.2.2.2 i hi hn).trans (h.2.2.2.2 i hi hn)⟩
theorem KI.kz {b : Nat} {w w' : World} (h : KI b w w') {Z : Nat} (hZ : Z ≤ w.heap.size) : KZ Z b w w' := ⟨h.os, h.tape, h.output, h.size, fun k hk hn => h.block k (Nat.lt_of_lt_of_le hk hZ) hn⟩
theorem belowKZ {Z : Nat} {w w' : World} (h : Below Z w w') (b : Nat) : KZ Z b w w' := ⟨h.os, h.tape, h.output, h.size, fun k hk _ => h.block k hk⟩
theorem KZ.ki {b : Nat} {w w' : World} (h : KZ w.heap.size b w w') : KI b w w' := ⟨h.1, h.2.1, h.2.2.1, h.2.2.2.1, h.2.2.2.2⟩
theorem KZ.setNew {Z b : Nat} {w w' : World} (h : KZ Z b w w') {g : Nat} (hg : Z ≤ g) (i : Nat) (u : Value) : KZ Z b w (w'.setCell ⟨g, i, none⟩ u) :=
  ⟨h.1, h.2.1, h.2.2.1, by simpa [World.setCell] using h.2.2.2.1, fun k hk hn => (Below.heap_setCell _ _ _ _ (by show k ≠ g; omega)).trans (h.2.2.2.2 k hk hn)⟩
theorem typedKept.own {e : TypeId} {w w' : World} (h : typedKept e w w') {B f s n : Nat} {v : Value} {xs : List Value} (ho : w.ownsRow B f s v n xs) (hne : e ≠ f) : w'.ownsRow B f s v n xs := by
  refine ⟨ho.1, ?_⟩
  rcases ho.2 with h1 | ⟨g, cap, cur, h0, h1, h2, h3⟩
  · exact .inl h1
  · exact .inr ⟨g, cap, cur, h0, h1, h g _ _ _ h2 hne, h3⟩
theorem KI.own {b : Nat} {w w' : World} (h : KI b w w') {B f s n : Nat} {v : Value} {xs : List Value} (ho : w.ownsRow B f s v n xs) (hb : v.ownBlock ≠ some b) : w'.ownsRow B f s v n xs :=
  own_keep ho fun g hg => h.block g (ho.lt g hg).2 (fun e => hb (by rw [hg, e]))
/-- What gave up within a statement. -/
def gaveQ (P : Prop) (Z b : Nat) (w : World) (ch : List PanicEntry) (w2 : World) : Prop := P ∧ (∃ E : Nat, E ≠ 0 ∧ Ending.panicked ch = gaveUp E) ∧ KZ Z b w w2
/-- A label, as it is read. -/
def cutL (s : List UInt8) : Option (Lab × List UInt8) := bindO (cutT s) fun n s1 => mapO (fun v => (n, v)) (cutT s1)
theorem cutT_len {s t r : List UInt8} (h : cutT s = some (t, r)) : r.length ≤ s.length := by have := cutT_lt h; omega
theorem cutL_lt {s r : List UInt8} {x : Lab} (h : cutL s = some (x, r)) : r.length < s.length ∧ x.1.length ≤ s.length ∧ x.2.length ≤ s.length := by
  unfold cutL bindO at h
  cases h1 : cutT s with
  | none => rw [h1] at h; cases h
  | some p =>
    obtain ⟨n, s1⟩ := p
    rw [h1] at h
    simp only [Option.bind_some] at h
    obtain ⟨v, hv, rfl⟩ := mapO_some h
    have := cutT_lt h1
    have := cutT_lt hv
    exact ⟨by omega, by show n.length ≤ _; omega, by show v.length ≤ _; omega⟩
/-- A ref that is being read: its number, its labels so far, and what is not read yet. -/
def inRef (Z b xb pb : Nat) (r : Int) (k : Nat) (st : List Lab × List UInt8) (w : World) : Prop :=
  Z ≤ w.heap.size ∧ st.2.length ≤ 140737488355328 ∧ st.1.length ≤ k ∧ InAt w b st.2 ∧ w.heap[pb]? = some (.cells #[.pointer (some ⟨b, 0, none⟩)] 148 (0, 0)) ∧
    ∃ v, w.heap[xb]? = some (.cells #[.int .i64 r, v] 59 (0, 0)) ∧ ownLabels w Z v st.1
def stepL (st : List Lab × List UInt8) : Option (List Lab × List UInt8) := mapO (fun x => st.1 ++ [x]) (cutL st.2)
theorem infoLab : (Tryz.prog.info? 107).map (fun i => (i.zero, i.size, i.bytes)) = some (some (.agg #[.string ByteArray.empty, .string ByteArray.empty]), 2, 32) := by kernel_rfl
/-- What holds while a label is read: ahead of the two texts, behind each, ahead of the append, and behind it. -/
def labJ (w : World) (Z b xb pb : Nat) (r : Int) (ls : List Lab) (s s1 s2 : List UInt8) (x : Lab) (v : Value) (q1 q2 qn : Bool) (xn : Value) (qa : Bool) (xa : Value) (w' : World) : Prop :=
  KZ Z b w w' ∧ Z ≤ w'.heap.size ∧ w'.heap[pb]? = some (.cells #[.pointer (some ⟨b, 0, none⟩)] 148 (0, 0)) ∧ w'.heap[xb]? = some (.cells #[.int .i64 r, v] 59 (0, 0)) ∧
    InAt w' b (if q2 = true then s2 else if q1 = true then s1 else s) ∧ (qa = false → ownLabels w' Z v ls) ∧ (qn = true → qa = false → ∃ nb, xn = .slice (some ⟨nb, 0, none⟩) 1 1 ∧ w'.heap[nb]? = some (.cells #[.string (bs x.1), .string (bs x.2)] 107 (0, 0))) ∧ (qa = true → ownLabels w' Z xa (ls ++ [x]))
theorem labJ.lay {w : World} {Z b xb pb : Nat} {r : Int} {ls : List Lab} {s s1 s2 : List UInt8} {x : Lab} {v xn xa : Value} {w' : World} {y1 y2 : List UInt8} (h : labJ w Z b xb pb r ls s s1 s2 x v true true false xn false xa w') (h1 : y1 = x.1) (h2 : y2 = x.2) (ya : Value) :
    labJ w Z b xb pb r ls s s1 s2 x v true true true (.slice (some ⟨w'.heap.size, 0, none⟩) 1 1) false ya (w'.alloc (.cells #[.string (bs y1), .string (bs y2)] 107)) := by
  subst h1 h2
  obtain ⟨hk, hZ, hp, hx, hi, ho, _, _⟩ := h
  have hg : Grow w' (w'.alloc (.cells #[.string (bs x.1), .string (bs x.2)] 107)) := (Grow.refl _).alloc _
  exact ⟨hk.trans (belowKZ (Below.mono hg hZ) b), by have := hg.size; omega, hg.get hp, hg.get hx, hi.grow hg, fun _ => Lb.own_grow (ho rfl) hg, fun _ _ => ⟨_, rfl, heap_alloc_new _ _⟩, fun h => by cases h⟩
set_option maxRecDepth 20000 in
theorem labJ.append {w : World} {Z b xb pb : Nat} {r : Int} {ls : List Lab} {s s1 s2 : List UInt8} {x : Lab} {ao : Option Addr} {cp : Nat} {xn xa : Value} {w' : World} (h : labJ w Z b xb pb r ls s s1 s2 x (.slice ao ls.length cp) true true true xn false xa w') (hl : ls.length ≤ 1000) (hb : b < Z) (ty : TypeId) :
    ∃ ao' cp' w3, (Builtin.append_ #[57, 57] ty #[.slice ao ls.length cp, xn]).run Tryz.prog w' = .ok (.slice ao' (ls.length + 1) cp') w3 ∧ ∀ yn, labJ w Z b xb pb r ls s s1 s2 x (.slice ao ls.length cp) true true true yn true (.slice ao' (ls.length + 1) cp') w3 := by
  obtain ⟨i0, hi0, hz0, hz1, hz2⟩ := info_parts infoLab
  obtain ⟨hk, hZ, hp, hx, hi, ho, hn, _⟩ := h
  have ho := ho rfl
  obtain ⟨nb, rfl, hnb⟩ := hn rfl rfl
  obtain ⟨ao', cp', w3, hrun, hown3, hbel, hty⟩ := app_one (ty := ty) (news := [.string (bs x.1), .string (bs x.2)]) Tryz.underlying57 hi0 hz0 hz1 hz2 rfl (by omega) ho hnb rfl (by simp [Value.oneCell']) (by omega) (by omega) hZ
  refine ⟨ao', cp', w3, hrun, fun yn => ⟨hk.trans (belowKZ hbel b), by have := hbel.size; omega, hty _ _ _ _ hp (by decide), hty _ _ _ _ hx (by decide), ?_, (fun h => by cases h), (fun _ h => by cases h), fun _ => ?_⟩⟩
  · exact hty _ _ _ _ hi (by decide)
  · unfold ownLabels
    rw [List.length_append, labCells_snoc]
    exact hown3
theorem labJ.put {w : World} {Z b xb pb : Nat} {r : Int} {ls : List Lab} {s s1 s2 : List UInt8} {x : Lab} {v xn xa : Value} {w' : World} {k : Nat} (h : labJ w Z b xb pb r ls s s1 s2 x v true true true xn true xa w') (hs : s2.length ≤ 140737488355328) (hl : ls.length ≤ k) (hx : Z ≤ xb) (hpx : pb ≠ xb) (hbx : b ≠ xb) :
    KZ Z b w (w'.setCell ⟨xb, 1, none⟩ xa) ∧ inRef Z b xb pb r (k + 1) (ls ++ [x], s2) (w'.setCell ⟨xb, 1, none⟩ xa) := by
  obtain ⟨hk, hZ, hp, hxb, hi, _, _, ho⟩ := h
  have ho := ho rfl
  refine ⟨hk.setNew hx _ _, by simpa [World.setCell] using hZ, hs, by rw [List.length_append]; simp; omega, hi.other (Ne.symm hbx) _ _, (Below.heap_setCell _ _ _ _ hpx).trans hp, xa, ?_, ?_⟩
  · have := set3 hxb 1 xa
    simpa using this
  · exact ownsRow_setCell_other (a := ⟨xb, 1, none⟩) ho (own_apart ho hxb (by decide)) _
theorem cutL_is {s : List UInt8} {x1 x2 s1 s2 : List UInt8} (h1 : cutT s = some (x1, s1)) (h2 : cutT s1 = some (x2, s2)) : cutL s = some ((x1, x2), s2) := by
  unfold cutL bindO mapO
  rw [h1]
  simp only [Option.bind_some]
  rw [h2]
  rfl
set_option maxRecDepth 20000 in
set_option maxHeartbeats 4000000 in
theorem ref1_any (w : World) (Z b xb pb : Nat) (r : Int) (k : Nat) (st : List Lab × List UInt8) (hk20 : k < 20) (hb : b < Z) (hxb : Z ≤ xb) (hpb : pb ≠ b) (hpx : pb ≠ xb) (h : inRef Z b xb pb r k st w) :
    Calls Tryz.prog 98 #[.pointer (some ⟨xb, 0, none⟩), .pointer (some ⟨pb, 0, none⟩)] w (turned (fun st' w' => KZ Z b w w' ∧ inRef Z b xb pb r (k + 1) st' w') (fun w' => KZ Z b w w') (stepL st)) := by
  obtain ⟨ls, s⟩ := st
  obtain ⟨hZ, hsl, hll, hin, hp, v, hx, ho⟩ := h
  simp only at hsl hll hin ho
  obtain ⟨O, HO⟩ : ∃ O, Hid (stepL (ls, s) = O) := ⟨_, hide rfl⟩
  rw [HO.out]
  obtain ⟨ao, cp, rfl⟩ := own_shape ho
  obtain ⟨x1, X1⟩ : ∃ x1, Hid (((cutT s).getD ([], [])).1 = x1) := ⟨_, hide rfl⟩
  obtain ⟨s1, S1⟩ : ∃ s1, Hid (((cutT s).getD ([], [])).2 = s1) := ⟨_, hide rfl⟩
  obtain ⟨x2, X2⟩ : ∃ x2, Hid (((cutT s1).getD ([], [])).1 = x2) := ⟨_, hide rfl⟩
  obtain ⟨s2, S2⟩ : ∃ s2, Hid (((cutT s1).getD ([], [])).2 = s2) := ⟨_, hide rfl⟩
  have C1 : Hid (∀ c, cutT s = some c → cutT s = some (x1, s1) ∧ s1.length ≤ 140737488355328) := hide fun c hc => by
    obtain ⟨c1, c2⟩ := c
    have h1 := X1.out
    have h2 := S1.out
    rw [hc] at h1 h2
    simp only [Option.getD_some] at h1 h2
    subst h1 h2
    exact ⟨hc, by have := cutT_len hc; omega⟩
  have C2 : Hid (∀ c, cutT s1 = some c → cutT s1 = some (x2, s2) ∧ s2.length ≤ s1.length) := hide fun c hc => by
    obtain ⟨c1, c2⟩ := c
    have h1 := X2.out
    have h2 := S2.out
    rw [hc] at h1 h2
    simp only [Option.getD_some] at h1 h2
    subst h1 h2
    exact ⟨hc, cutT_len hc⟩
  have N1 : Hid (cutT s = none → O = none) := hide fun hc => by rw [← HO.out]; unfold stepL cutL bindO mapO; simp only; rw [hc]; rfl
  have N2 : Hid (cutT s = some (x1, s1) → cutT s1 = none → O = none) := hide fun hc hc2 => by
    rw [← HO.out]; unfold stepL cutL bindO mapO; simp only; rw [hc]; simp only [Option.bind_some]; rw [hc2]; rfl
  have Y : Hid (cutT s = some (x1, s1) → cutT s1 = some (x2, s2) → O = some (ls ++ [(x1, x2)], s2)) := hide fun hc hc2 => by
    rw [← HO.out]; unfold stepL mapO; simp only; rw [cutL_is hc hc2]; rfl
  have HX := hide hx
  have HP := hide hp
  have HIN := hide hin
  have HOW := hide ho
  have HSL := hide hsl
  clear HO X1 S1 X2 S2 hx hp hin ho hsl
  go_enter Tryz.func98, Tryz.ntmps98
  go_wp2
  refine wp_region_state 10 12 mixedR rfl (by decide +kernel) (fun L vals w' => labJ w Z b xb pb r ls s s1 s2 (x1, x2) (.slice ao ls.length cp) (L 3) (L 5) (L 7) (vals 7) (L 8) (vals 8) w')
    (fun L vals h => ?_)
    (fun i v => match i with
      | 0 => v = .pointer (some ⟨xb, 1, none⟩)
      | 1 => v = .slice ao ls.length cp
      | 2 => v = .pointer (some ⟨b, 0, none⟩)
      | 3 => cutT s = some (x1, s1) ∧ v = .string (bs x1)
      | 4 => v = .pointer (some ⟨b, 0, none⟩)
      | 5 => (cutT s = some (x1, s1) ∧ cutT s1 = some (x2, s2)) ∧ v = .string (bs x2)
      | 6 => v = .agg #[.string (bs x1), .string (bs x2)]
      | 7 => True
      | 8 => ∃ ao' cp', v = .slice ao' (ls.length + 1) cp'
      | _ => v = .pointer (some ⟨xb, 1, none⟩))
    (gaveQ (O = none) Z b w) (fun ch a w2 hd hq => ?_) (fun i hi o ho a w2 L vals hLi hLc hLe hJ hoff hval hdep => ?_) (fun vals w2 L hL hJ hvals => ?_)
  · simp only [h]
    exact ⟨⟨rfl, rfl, rfl, Nat.le_refl _, fun _ _ _ => rfl⟩, hZ, HP.out, HX.out, HIN.out, fun _ => HOW.out, (fun h => by cases h), (fun h => by cases h)⟩
  · obtain ⟨hq0, ⟨E, hE, hq1⟩, hq2⟩ := hq
    simp only [Ending.panicked.injEq] at hq1
    subst hq1
    refine ⟨hd, ?_⟩
    rw [hq0]
    exact ⟨⟨E, hE, rfl⟩, hq2⟩
  · have hJ0 := hJ
    obtain ⟨hk, hZ2, hpb2, hxb2, hin2, hown, hnew, hown2⟩ := id hJ
    have cp0 := cell_of_one hpb2
    obtain ⟨cx0, cx1⟩ := two_of hxb2
    match i, hi with
    | 0, _ =>
      obtain rfl := Option.some.inj ho
      have o0 := hoff 0 (by decide +kernel)
      simp at o0
      simp [opYields, go_sem, o0]
      exact hJ
    | 1, _ =>
      obtain rfl := Option.some.inj ho
      have d0 := hdep 0 (by decide +kernel)
      simp [slotOf, dstOf] at d0
      simp [opYields, go_sem, d0, cx1]
      exact hJ
    | 2, _ =>
      obtain rfl := Option.some.inj ho
      have o1 := hoff 1 (by decide +kernel)
      simp at o1
      simp [opYields, go_sem, o1, cp0]
      exact hJ
    | 3, _ =>
      have h5 : L 5 = false := by
        cases h : L 5 with
        | false => rfl
        | true => have := hLc 5 h 3 (by decide +kernel); rw [hLi] at this; cases this
      obtain rfl := Option.some.inj ho
      have d2 := hdep 2 (by decide +kernel)
      simp [slotOf, dstOf] at d2
      simp [opYields, go_sem, d2]
      rw [hLi, h5] at hin2 hJ
      refine (bytes_r w2 b s hin2 HSL.out).mono ?_
      cases hc : cutT s with
      | none =>
        rintro e w3 ⟨hk3, E, hE, rfl⟩
        exact ⟨N1.out hc, ⟨E, hE, rfl⟩, hk.trans (hk3.kz hZ2)⟩
      | some c =>
        obtain ⟨hc1, hc2⟩ := C1.out c hc
        obtain rfl : c = (x1, s1) := by rw [hc] at hc1; exact Option.some.inj hc1
        rintro e w3 ⟨hk3, rfl, hi3⟩
        refine ⟨⟨hk.trans (hk3.kz hZ2), by have := hk3.size; omega, hk3.get hpb2 hpb, hk3.get hxb2 (by omega), by simpa [h5] using hi3, fun h => ?_, fun h1 h2 => ?_, fun h => ?_⟩, ?_⟩
        · have ho2 := hown (by simpa using h)
          exact hk3.own ho2 (fun e => by have := (ho2.lt _ e).1; omega)
        · exfalso
          have h7 : L 7 = true := by simpa using h1
          have := hLc 7 h7 6 (by decide +kernel)
          have := hLc 6 this 3 (by decide +kernel)
          rw [hLi] at this; cases this
        · exfalso
          have h8 : L 8 = true := by simpa using h
          have := hLc 8 h8 7 (by decide +kernel)
          have := hLc 7 this 6 (by decide +kernel)
          have := hLc 6 this 3 (by decide +kernel)
          rw [hLi] at this; cases this
        · exact ⟨rfl, rfl⟩
    | 4, _ =>
      obtain rfl := Option.some.inj ho
      have o1 := hoff 1 (by decide +kernel)
      simp at o1
      simp [opYields, go_sem, o1, cp0]
      exact hJ
    | 5, _ =>
      have h3 := hLe 3 (by decide +kernel)
      obtain ⟨hc1, _⟩ := hdep 3 (by decide +kernel)
      obtain rfl := Option.some.inj ho
      have d4 := hdep 4 (by decide +kernel)
      simp [slotOf, dstOf] at d4
      simp [opYields, go_sem, d4]
      rw [hLi, h3] at hin2 hJ
      refine (bytes_r w2 b s1 hin2 (C1.out _ hc1).2).mono ?_
      cases hc : cutT s1 with
      | none =>
        rintro e w3 ⟨hk3, E, hE, rfl⟩
        exact ⟨N2.out hc1 hc, ⟨E, hE, rfl⟩, hk.trans (hk3.kz hZ2)⟩
      | some c =>
        obtain ⟨hc2, _⟩ := C2.out c hc
        obtain rfl : c = (x2, s2) := by rw [hc] at hc2; exact Option.some.inj hc2
        rintro e w3 ⟨hk3, rfl, hi3⟩
        refine ⟨⟨hk.trans (hk3.kz hZ2), by have := hk3.size; omega, hk3.get hpb2 hpb, hk3.get hxb2 (by omega), by simpa using hi3, fun h => ?_, fun h1 h2 => ?_, fun h => ?_⟩, ?_⟩
        · have ho2 := hown (by simpa using h)
          exact hk3.own ho2 (fun e => by have := (ho2.lt _ e).1; omega)
        · exfalso
          have h7 : L 7 = true := by simpa using h1
          have := hLc 7 h7 6 (by decide +kernel)
          have := hLc 6 this 5 (by decide +kernel)
          rw [hLi] at this; cases this
        · exfalso
          have h8 : L 8 = true := by simpa using h
          have := hLc 8 h8 7 (by decide +kernel)
          have := hLc 7 this 6 (by decide +kernel)
          have := hLc 6 this 5 (by decide +kernel)
          rw [hLi] at this; cases this
        · exact ⟨⟨hc1, rfl⟩, rfl⟩
    | 6, _ =>
      obtain rfl := Option.some.inj ho
      have d3 := (hdep 3 (by decide +kernel)).2
      have d5 := (hdep 5 (by decide +kernel)).2
      simp [slotOf, dstOf] at d3 d5
      simp [opYields, go_sem, d3, d5]
      exact hJ
    | 7, _ =>
      have h3 := hLc 6 (hLe 6 (by decide +kernel)) 3 (by decide +kernel)
      have h5 := hLc 6 (hLe 6 (by decide +kernel)) 5 (by decide +kernel)
      have h8 : L 8 = false := by
        cases h : L 8 with
        | false => rfl
        | true => have := hLc 8 h 7 (by decide +kernel); rw [hLi] at this; cases this
      obtain rfl := Option.some.inj ho
      have d6 := hdep 6 (by decide +kernel)
      simp [slotOf, dstOf] at d6
      rw [hLi, h8, h3, h5] at hJ
      simp [opYields, go_sem, d6, h8, h3, h5]
      exact hJ.lay rfl rfl _
    | 8, _ =>
      have h7 := hLe 7 (by decide +kernel)
      have h3 := hLc 6 (hLc 7 h7 6 (by decide +kernel)) 3 (by decide +kernel)
      have h5 := hLc 6 (hLc 7 h7 6 (by decide +kernel)) 5 (by decide +kernel)
      obtain rfl := Option.some.inj ho
      have d1 := hdep 1 (by decide +kernel)
      have d7 := hval 7 (by decide +kernel)
      simp [slotOf, dstOf] at d1 d7
      rw [hLi, h7, h3, h5] at hJ
      obtain ⟨ao', cp', w3, hrun, hJ3⟩ := labJ.append hJ (by omega) hb 57
      refine yields_append rfl (.tmp 3) (.tmp 9) _ _ rfl (v1 := .slice ao ls.length cp) (v2 := vals 7) (by simpa [Act.eval] using d1) (by simpa [Act.eval] using d7) hrun ?_
      simp only [h7, h3, h5]
      exact ⟨hJ3 _, ao', cp', rfl⟩
    | 9, _ =>
      obtain rfl := Option.some.inj ho
      have o0 := hoff 0 (by decide +kernel)
      simp at o0
      simp [opYields, go_sem, o0]
      exact hJ
    | k + 10, h => exact absurd h (by omega)
  · have h3 := hL 3 (by omega)
    have h5 := hL 5 (by omega)
    have h7 := hL 7 (by omega)
    have h8 := hL 8 (by omega)
    rw [h3, h5, h7, h8] at hJ
    obtain ⟨⟨hc1, hc2⟩, _⟩ := hvals 5 (by omega)
    obtain ⟨ao', cp', v8⟩ := hvals 8 (by omega)
    have v9 := hvals 9 (by omega)
    simp only at v9
    have hP := hJ.put (k := k) (by have := (C1.out _ hc1).2; have := (C2.out _ hc2).2; omega) hll hxb hpx (by omega)
    obtain ⟨_, _, _, hxb2, _⟩ := hJ
    rw [v8] at hP
    have HPT := hide hP
    have HY := hide (Y.out hc1 hc2)
    obtain ⟨cx0, cx1⟩ := two_of hxb2
    have z1 : w2.frozen? ⟨xb, 1, none⟩ = false := by simp only [World.frozen?, hxb2]; rfl
    clear hvals hP hxb2 hc1 hc2
    simp [over, dstOf, Act.put, v8, v9]
    go_wp2
    go_end0
    rw [HY.out]
    exact ⟨rfl, HPT.out⟩
/-- Labels, as they are read, and a ref. -/
def cutLs (s : List UInt8) : Option (List Lab × List UInt8) := eachO stepL 20 (fun st => st.2) (fun st r => (st.1, r)) ([], s)
def cutR (s : List UInt8) : Option (RefL × List UInt8) := bindO (mapO numI (cutN s)) fun n s1 => mapO (fun ls => (n, ls)) (cutLs s1)
/-- What the reader's ref answers: a value whose labels the call owns. -/
def refAns (Z b : Nat) (o : Option (RefL × List UInt8)) (w : World) (e : Ending) (w' : World) : Prop :=
  KI b w w' ∧ match o with
    | some x => ∃ v, e = .returned (.agg #[.int .i64 x.1.1, v]) ∧ ownLabels w' Z v x.1.2 ∧ InAt w' b x.2
    | none => ∃ E : Nat, E ≠ 0 ∧ e = gaveUp E
theorem infoRef : (Tryz.prog.info? 59).map (·.size) = some 2 := by kernel_rfl
theorem kz_back {Z b : Nat} {a c d : World} (h : KI b a c) (k : KZ Z b c d) (hZ : a.heap.size ≤ Z := by first | omega | (simp at *; omega)) : KI b a d :=
  ⟨k.1.trans h.os, k.2.1.trans h.tape, k.2.2.1.trans h.output, Nat.le_trans h.size k.2.2.2.1, fun i hi hn => (k.2.2.2.2 i (Nat.lt_of_lt_of_le hi hZ) hn).trans (h.block i hi hn)⟩
set_option maxRecDepth 20000 in
set_option maxHeartbeats 4000000 in
theorem ref_any (w : World) (b : Nat) (s : List UInt8) (h : InAt w b s) (hs : s.length ≤ 140737488355328) :
    Calls Tryz.prog 67 #[.pointer (some ⟨b, 0, none⟩)] w (refAns w.heap.size b (cutR s) w) := by
  have hcf : ∀ (args : Array Value) (w : World), (callFunc 98 args).run Tryz.prog w = .ok (.enter 98 args) w := fun args w => by simp [go_sem]
  obtain ⟨O, HO⟩ : ∃ O, Hid (cutR s = O) := ⟨_, hide rfl⟩
  rw [HO.out]
  have HO1 : Hid ((mapO numI (cutN s)).bind (fun x => mapO (fun ls => (x.1, ls)) (cutLs x.2)) = O) := HO
  clear HO
  have hbl := lt_of_block h
  obtain ⟨V1, e1, g1, b1⟩ := laid_at w #[.pointer (some ⟨b, 0, none⟩)] 148
  obtain ⟨V2, e2, g2, b2⟩ := laid_at V1 #[.int .i64 0, .slice none 0 0] 59
  have s1 : V1.heap.size = w.heap.size + 1 := by rw [← e1]; simp
  have s2 : V2.heap.size = w.heap.size + 2 := by rw [← e2]; simp [s1]
  have b1' := g2.get b1
  have h02 : Grow w V2 := g1.trans g2
  have HN := hide (refNumber_r V2 b s (h.grow h02) hs)
  have c1 := cell_of_one b1'
  have HB1 := hide b1'
  have HB2 := hide b2
  have H02 := hide h02
  unfold readAs at HN
  cases hc : mapO numI (cutN s) with
  | none =>
    rw [hc] at HN HO1
    simp only [Option.bind_none] at HN HO1
    clear hc b1 b2 b1' g1 g2 h02 h s2
    go_enter Tryz.func67, Tryz.ntmps67
    go_wp2_with fail
    refine HN.out.mono ?_
    rintro e w1 ⟨hk, E, hE, rfl⟩
    refine ⟨rfl, ?_⟩
    unfold refAns
    rw [← HO1.out]
    exact ⟨(KI.grow H02.out).trans hk, E, hE, rfl⟩
  | some x =>
    obtain ⟨n, r⟩ := x
    obtain ⟨n1, hn1, -⟩ := mapO_some hc
    have hrl := cutN_len hn1
    rw [hc] at HN HO1
    simp only [Option.bind_some] at HN HO1
    have HEA : Hid (∀ W xb, InAt W b r → W.heap[w.heap.size]? = some (.cells #[.pointer (some ⟨b, 0, none⟩)] 148 (0, 0)) → W.heap[xb]? = some (.cells #[.int .i64 n, .slice none 0 0] 59 (0, 0)) → w.heap.size < xb → xb ≤ W.heap.size →
        Calls Tryz.prog 65 #[.pointer (some ⟨b, 0, none⟩), .int .u64 20, .func (.func 98) #[] #[.pointer (some ⟨xb, 0, none⟩), .pointer (some ⟨w.heap.size, 0, none⟩)]] W (turned (fun st w' => ∃ k, k ≤ 20 ∧ KZ xb b W w' ∧ inRef xb b xb w.heap.size n k st w') (fun w' => KZ xb b W w') (cutLs r))) := hide fun W xb hi hp hx hlx hW => by
      unfold cutLs
      refine each_any W b 20 98 _ (fun st => st.2) (fun st r => (st.1, r)) (fun k st w' => KZ xb b W w' ∧ inRef xb b xb w.heap.size n k st w') (fun w' => KZ xb b W w') stepL ([], r) hcf (by omega) hi (by show r.length ≤ _; omega) (fun q w' hk hq hql => ?_) (fun w' hk => hk.kz hW) (fun k st w' h => h.1) (fun k st W' hk20 hI => ?_)
      · have hql' : q.length ≤ r.length := hql
        exact ⟨hk.kz hW, by have := hk.size; omega, by show q.length ≤ _; omega, Nat.zero_le _, hq, hk.get hp (by omega), .slice none 0 0, hk.get hx (by omega), World.ownsRow_nil _ _ _ _⟩
      · refine (ref1_any W' xb b xb w.heap.size n k st hk20 (by omega) (Nat.le_refl _) (by omega) (by omega) hI.2).mono fun e w' ht => ?_
        unfold turned at ht ⊢
        cases hst : stepL st with
        | none => rw [hst] at ht; exact ⟨ht.1, hI.1.trans ht.2⟩
        | some st' => rw [hst] at ht; exact ⟨ht.1, hI.1.trans ht.2.1, ht.2.2⟩
    clear hc hn1 b1 b2 b1' g1 g2 h02 h hcf
    go_enter Tryz.func67, Tryz.ntmps67
    go_wp2_with fail
    refine HN.out.mono ?_
    rintro e w1 ⟨hk1, rfl, hi1⟩
    have HK1 := hide hk1
    have HI1 := hide hi1
    have HP1 := hide (hk1.get HB1.out (by omega))
    have c1' := cell_of_one HP1.out
    have hs1 := hk1.size
    obtain ⟨W3, e3, g3, b3⟩ := laid_at w1 #[.int .i64 n, .slice none 0 0] 59
    have HG3 := hide g3
    have HB3 := hide b3
    have c1W := cell_of_one (g3.get HP1.out)
    have HE := hide (HEA.out W3 w1.heap.size (HI1.out.grow g3) (g3.get HP1.out) b3 (by omega) (by have := g3.size; omega))
    unfold turned at HE
    rw [← e3] at HE c1W HG3 HB3
    clear e3
    clear hk1 hi1 HN g3 b3 c1 e1 e2 HEA
    cases hc : cutLs r with
    | none =>
      rw [hc] at HE
      simp only at HE
      rw [hc] at HO1
      clear hc
      go_wp2_with fail
      refine HE.out.mono ?_
      rintro e w4 ⟨⟨E, hE, rfl⟩, hk4⟩
      refine ⟨rfl, ?_⟩
      unfold refAns
      rw [← HO1.out]
      exact ⟨(KI.grow H02.out).trans (HK1.out.trans (kz_back (KI.grow HG3.out) hk4)), E, hE, rfl⟩
    | some x =>
      obtain ⟨ls, q⟩ := x
      rw [hc] at HE
      simp only at HE
      rw [hc] at HO1
      clear hc
      go_wp2_with fail
      refine HE.out.mono ?_
      rintro e w4 ⟨rfl, k, hk20, hk4, hZ4, hq4, hl4, hi4, hp4, v, hx4, ho4⟩
      simp only at hi4 ho4
      have HK4 := hide ((KI.grow H02.out).trans (HK1.out.trans (kz_back (KI.grow HG3.out) hk4)))
      have hb2 : w4.heap[w.heap.size + 1]? = some (.cells #[.int .i64 0, .slice none 0 0] 59 (0, 0)) := by
        have h1 := HB2.out
        rw [s1] at h1
        have h2 := HG3.out.get (HK1.out.get h1 (by omega))
        exact (hk4.2.2.2.2 _ (by omega) (by omega)).trans h2
      have HI4 := hide hi4
      have HO4 := hide ho4
      have HB4 := hide hb2
      obtain ⟨cx0, cx1⟩ := two_of hx4
      obtain ⟨cr0, cr1⟩ := two_of hb2
      have z0 : w4.frozen? ⟨w.heap.size + 1, 0, none⟩ = false := by simp only [World.frozen?, hb2]; rfl
      have z1 : w4.frozen? ⟨w.heap.size + 1, 1, none⟩ = false := by simp only [World.frozen?, hb2]; rfl
      obtain ⟨vo, vc, hv⟩ := own_shape ho4
      subst hv
      clear hk4 hZ4 hq4 hl4 hi4 hp4 hx4 ho4 hb2 HE HB2 HB3 HG3 HK1
      go_wp2
      have HF := set3 (set3 HB4.out 0 (.int .i64 n)) 1 (.slice vo ls.length vc)
      refine bodyPost_ret (v := .agg #[.int .i64 n, .slice vo ls.length vc]) (results_cell_row (p := 2) (ty := 59) rfl _ _ (w.heap.size + 1) _ _ _ _ rfl HF Tryz.underlying59 rfl infoRef) rfl ?_
      unfold refAns
      rw [← HO1.out]
      refine ⟨(HK4.out.setNew (g := w.heap.size + 1) (by omega) _ _).setNew (g := w.heap.size + 1) (by omega) _ _, ?_⟩
      refine ⟨.slice vo ls.length vc, rfl, ?_, (HI4.out.other (g := w.heap.size + 1) (by omega) _ _).other (g := w.heap.size + 1) (by omega) _ _⟩
      have h1 := ownsRow_setCell_other (a := ⟨w.heap.size + 1, 0, none⟩) (own_le HO4.out (Nat.le_of_lt (by omega : w.heap.size < w1.heap.size))) (own_apart HO4.out HB4.out (by decide)) (.int .i64 n)
      exact ownsRow_setCell_other (a := ⟨w.heap.size + 1, 1, none⟩) h1 (own_apart h1 (set3 HB4.out 0 _) (by decide)) _
def refCells : List (Int × Value) → List Value
  | [] => []
  | x :: l => .int .i64 x.1 :: x.2 :: refCells l
theorem refCells_snoc (l : List (Int × Value)) (x : Int × Value) : refCells (l ++ [x]) = refCells l ++ [.int .i64 x.1, x.2] := by
  induction l with
  | nil => rfl
  | cons y l ih => simp [refCells, ih]
theorem refCells_at : ∀ (l : List (Int × Value)) (i : Nat) (h : i < l.length), (refCells l)[i * 2]? = some (.int .i64 l[i].1) ∧ (refCells l)[i * 2 + 1]? = some l[i].2
  | [], i, h => by simp at h
  | x :: l, 0, h => ⟨rfl, rfl⟩
  | x :: l, i + 1, h => by
    have e : (i + 1) * 2 = i * 2 + 1 + 1 := by omega
    have := refCells_at l i (by simpa using h)
    rw [e]
    simpa [refCells] using this
def pntCells : List Pnt → List Value
  | [] => []
  | x :: l => .int .i64 x.1 :: .int .i64 x.2.1 :: .int .u64 (x.2.2 : Nat) :: pntCells l
theorem pntCells_snoc (l : List Pnt) (x : Pnt) : pntCells (l ++ [x]) = pntCells l ++ [.int .i64 x.1, .int .i64 x.2.1, .int .u64 (x.2.2 : Nat)] := by
  induction l with
  | nil => rfl
  | cons y l ih => simp [pntCells, ih]
theorem pntCells_at : ∀ (l : List Pnt) (i : Nat) (h : i < l.length), (pntCells l)[i * 3]? = some (.int .i64 l[i].1) ∧ (pntCells l)[i * 3 + 1]? = some (.int .i64 l[i].2.1) ∧ (pntCells l)[i * 3 + 2]? = some (.int .u64 (l[i].2.2 : Nat))
  | [], i, h => by simp at h
  | x :: l, 0, h => ⟨rfl, rfl, rfl⟩
  | x :: l, i + 1, h => by
    have e : (i + 1) * 3 = i * 3 + 1 + 1 + 1 := by omega
    have := pntCells_at l i (by simpa using h)
    rw [e]
    simpa [pntCells] using this
/-- A row of refs that a call owns, with the labels of each; a row of points. -/
def ownRefs (w : World) (Z : Nat) (v : Value) (rs : List RefL) : Prop :=
  ∃ ps : List (Int × Value), ps.length = rs.length ∧ w.ownsRow Z 59 2 v rs.length (refCells ps) ∧ ∀ (i : Nat) (p : Int × Value) (x : RefL), ps[i]? = some p → rs[i]? = some x → p.1 = x.1 ∧ ownLabels w Z p.2 x.2
def ownPoints (w : World) (Z : Nat) (v : Value) (ps : List Pnt) : Prop := w.ownsRow Z 64 3 v ps.length (pntCells ps)
theorem ownRefs_nil (w : World) (Z : Nat) : ownRefs w Z (.slice none 0 0) [] := ⟨[], rfl, World.ownsRow_nil _ _ _ _, fun i p x h => by simp at h⟩
theorem own_stay {w w' : World} {B f s n : Nat} {v : Value} {xs : List Value} (ho : w.ownsRow B f s v n xs) (h : ∀ g, B ≤ g → g < w.heap.size → w'.heap[g]? = w.heap[g]?) : w'.ownsRow B f s v n xs :=
  own_keep ho fun g hg => h g (ho.lt g hg).1 (ho.lt g hg).2
theorem ownRefs_stay {w w' : World} {Z : Nat} {v : Value} {rs : List RefL} (ho : ownRefs w Z v rs) (h : ∀ g, Z ≤ g → g < w.heap.size → w'.heap[g]? = w.heap[g]?) : ownRefs w' Z v rs := by
  obtain ⟨ps, h1, h2, h3⟩ := ho
  exact ⟨ps, h1, own_stay h2 h, fun i p x hp hx => ⟨(h3 i p x hp hx).1, own_stay (h3 i p x hp hx).2 h⟩⟩
theorem ownRefs_le {w : World} {Z Z' : Nat} {v : Value} {rs : List RefL} (ho : ownRefs w Z v rs) (h : Z' ≤ Z) : ownRefs w Z' v rs := by
  obtain ⟨ps, h1, h2, h3⟩ := ho
  exact ⟨ps, h1, own_le h2 h, fun i p x hp hx => ⟨(h3 i p x hp hx).1, own_le (h3 i p x hp hx).2 h⟩⟩
theorem KI.stay {b : Nat} {w w' : World} (h : KI b w w') {Z : Nat} (hb : b < Z) : ∀ g, Z ≤ g → g < w.heap.size → w'.heap[g]? = w.heap[g]? := fun g hg hl => h.block g hl (by omega)
theorem ownRefs_shape {w : World} {Z : Nat} {v : Value} {rs : List RefL} (h : ownRefs w Z v rs) : ∃ ao cp, v = .slice ao rs.length cp := by
  obtain ⟨ps, h1, h2, h3⟩ := h
  exact own_shape h2
/-- A store into a block of another kind. -/
theorem ownRefs_set {w : World} {Z : Nat} {v : Value} {rs : List RefL} (ho : ownRefs w Z v rs) {g i : Nat} {c : Array Value} {t : TypeId} {fr : Nat × Nat} (hg : w.heap[g]? = some (.cells c t fr)) (h1 : 59 ≠ t) (h2 : 107 ≠ t) (u : Value) : ownRefs (w.setCell ⟨g, i, none⟩ u) Z v rs := by
  obtain ⟨ps, e1, e2, e3⟩ := ho
  exact ⟨ps, e1, ownsRow_setCell_other (a := ⟨g, i, none⟩) e2 (own_apart e2 hg h1) u, fun j p x hp hx => ⟨(e3 j p x hp hx).1, ownsRow_setCell_other (a := ⟨g, i, none⟩) (e3 j p x hp hx).2 (own_apart (e3 j p x hp hx).2 hg h2) u⟩⟩
theorem infoRefT : (Tryz.prog.info? 59).map (fun i => (i.zero, i.size, i.bytes)) = some (some (.agg #[.int .i64 0, .slice none 0 0]), 2, 32) := by kernel_rfl
theorem infoPntT : (Tryz.prog.info? 64).map (fun i => (i.zero, i.size, i.bytes)) = some (some (.agg #[.int .i64 0, .int .i64 0, .int .u64 0]), 3, 24) := by kernel_rfl
theorem Tryz.underRefs : Tryz.prog.underlying 22 = some (.slice 59) := by kernel_rfl
theorem Tryz.underPnts : Tryz.prog.underlying 27 = some (.slice 64) := by kernel_rfl
/-- What holds while a ref is read: ahead of it, behind it, when it is laid, and behind the append. -/
def refJ (w : World) (Z b rb : Nat) (kind : Int) (rs : List RefL) (s s1 : List UInt8) (x : RefL) (v : Value) (q2 : Bool) (y2 : Value) (qn : Bool) (yn : Value) (qa : Bool) (ya : Value) (w' : World) : Prop :=
  KZ Z b w w' ∧ Z ≤ w'.heap.size ∧ w'.heap[rb]? = some (.cells #[.int .i64 kind, v, .slice none 0 0] 29 (0, 0)) ∧ InAt w' b (if q2 = true then s1 else s) ∧ (qa = false → ownRefs w' Z v rs) ∧
    (q2 = true → qn = false → ∃ lv, y2 = .agg #[.int .i64 x.1, lv] ∧ ownLabels w' Z lv x.2) ∧
    (qn = true → qa = false → ∃ nb lv, yn = .slice (some ⟨nb, 0, none⟩) 1 1 ∧ w'.heap[nb]? = some (.cells #[.int .i64 x.1, lv] 59 (0, 0)) ∧ ownLabels w' Z lv x.2) ∧
    (qa = true → ownRefs w' Z ya (rs ++ [x]))
theorem refJ.lay {w : World} {Z b rb : Nat} {kind : Int} {rs : List RefL} {s s1 : List UInt8} {x : RefL} {v y2 yn ya lv : Value} {w' : World} (h : refJ w Z b rb kind rs s s1 x v true y2 false yn false ya w') (h2 : y2 = .agg #[.int .i64 x.1, lv]) (za : Value) :
    refJ w Z b rb kind rs s s1 x v true y2 true (.slice (some ⟨w'.heap.size, 0, none⟩) 1 1) false za (w'.alloc (.cells #[.int .i64 x.1, lv] 59)) := by
  obtain ⟨hk, hZ, hr, hi, ho, h2', _, _⟩ := h
  obtain ⟨lv', e2, hl⟩ := h2' rfl rfl
  rw [h2] at e2
  obtain rfl : lv = lv' := by simpa using e2
  have hg : Grow w' (w'.alloc (.cells #[.int .i64 x.1, lv] 59)) := (Grow.refl _).alloc _
  have hs : ∀ g, Z ≤ g → g < w'.heap.size → (w'.alloc (.cells #[.int .i64 x.1, lv] 59)).heap[g]? = w'.heap[g]? := fun g _ hgl => hg.block g hgl
  exact ⟨hk.trans (belowKZ (Below.mono hg hZ) b), by have := hg.size; omega, hg.get hr, hi.grow hg, fun _ => ownRefs_stay (ho rfl) hs, (fun _ h => by cases h), fun _ _ => ⟨_, lv, rfl, heap_alloc_new _ _, own_stay hl hs⟩, fun h => by cases h⟩
set_option maxRecDepth 20000 in
theorem refJ.append {w : World} {Z b rb : Nat} {kind : Int} {rs : List RefL} {s s1 : List UInt8} {x : RefL} {ao : Option Addr} {cp : Nat} {y2 yn ya : Value} {w' : World} (h : refJ w Z b rb kind rs s s1 x (.slice ao rs.length cp) true y2 true yn false ya w') (hl : rs.length ≤ 1000) (ty : TypeId) :
    ∃ ao' cp' w3, (Builtin.append_ #[22, 22] ty #[.slice ao rs.length cp, yn]).run Tryz.prog w' = .ok (.slice ao' (rs.length + 1) cp') w3 ∧ ∀ zn, refJ w Z b rb kind rs s s1 x (.slice ao rs.length cp) true y2 true zn true (.slice ao' (rs.length + 1) cp') w3 := by
  obtain ⟨i0, hi0, hz0, hz1, hz2⟩ := info_parts infoRefT
  obtain ⟨hk, hZ, hr, hi, ho, _, hn, _⟩ := h
  obtain ⟨ps, hpl, hrow, hall⟩ := ho rfl
  obtain ⟨nb, lv, rfl, hnb, hlv⟩ := hn rfl rfl
  obtain ⟨ao', cp', w3, hrun, hown3, hbel, hty⟩ := app_one (ty := ty) (news := [.int .i64 x.1, lv]) Tryz.underRefs hi0 hz0 hz1 hz2 rfl (by omega) hrow hnb rfl (by
    obtain ⟨vo, vc, hv⟩ := own_shape hlv
    subst hv
    simp [Value.oneCell']) (by omega) (by omega) hZ
  refine ⟨ao', cp', w3, hrun, fun zn => ⟨hk.trans (belowKZ hbel b), by have := hbel.size; omega, hty _ _ _ _ hr (by decide), hty _ _ _ _ hi (by decide), (fun h => by cases h), (fun _ h => by cases h), (fun _ h => by cases h), fun _ => ?_⟩⟩
  refine ⟨ps ++ [(x.1, lv)], by simp [hpl], ?_, fun i p y hp hy => ?_⟩
  · rw [refCells_snoc, List.length_append]
    exact hown3
  · rcases Nat.lt_or_ge i ps.length with hlt | hge
    · rw [List.getElem?_append_left hlt] at hp
      rw [List.getElem?_append_left (by omega)] at hy
      exact ⟨(hall i p y hp hy).1, hty.own (hall i p y hp hy).2 (by decide)⟩
    · rw [List.getElem?_append_right hge] at hp
      rw [List.getElem?_append_right (by omega)] at hy
      have hi0 : i - ps.length = 0 := by
        rcases Nat.eq_zero_or_pos (i - ps.length) with h | h
        · exact h
        · rw [List.getElem?_eq_none (by simp; omega)] at hp; cases hp
      rw [hi0] at hp
      rw [show i - rs.length = 0 by omega] at hy
      simp at hp hy
      subst hp hy
      exact ⟨rfl, hty.own hlv (by decide)⟩
/-- A record that is being read: its refs so far, and what is not read yet. -/
def inRec (Z b rb : Nat) (kind : Int) (k : Nat) (st : List RefL × List UInt8) (w : World) : Prop :=
  Z ≤ w.heap.size ∧ st.2.length ≤ 140737488355328 ∧ st.1.length ≤ k ∧ InAt w b st.2 ∧ ∃ v, w.heap[rb]? = some (.cells #[.int .i64 kind, v, .slice none 0 0] 29 (0, 0)) ∧ ownRefs w Z v st.1
def stepR (st : List RefL × List UInt8) : Option (List RefL × List UInt8) := mapO (fun x => st.1 ++ [x]) (cutR st.2)
theorem refJ.put {w : World} {Z b rb : Nat} {kind : Int} {rs : List RefL} {s s1 : List UInt8} {x : RefL} {v y2 yn ya : Value} {w' : World} {k : Nat} (h : refJ w Z b rb kind rs s s1 x v true y2 true yn true ya w') (hs : s1.length ≤ 140737488355328) (hl : rs.length ≤ k) (hx : Z ≤ rb) (hbx : b ≠ rb) :
    KZ Z b w (w'.setCell ⟨rb, 1, none⟩ ya) ∧ inRec Z b rb kind (k + 1) (rs ++ [x], s1) (w'.setCell ⟨rb, 1, none⟩ ya) := by
  obtain ⟨hk, hZ, hr, hi, _, _, _, ho⟩ := h
  refine ⟨hk.setNew hx _ _, by simpa [World.setCell] using hZ, hs, by rw [List.length_append]; simp; omega, hi.other (Ne.symm hbx) _ _, ya, ?_, ownRefs_set (ho rfl) hr (by decide) (by decide) _⟩
  have := set3 hr 1 ya
  simpa using this
/-- What each step keeps, all keep. -/
theorem runN_keeps {σ : Type} {step : σ → Option σ} {R : σ → σ → Prop} (hr : ∀ a, R a a) (ht : ∀ a b c, R a b → R b c → R a c) (hs : ∀ a b, step a = some b → R a b) : ∀ (n : Nat) (a b : σ), runN step n a = some b → R a b
  | 0, a, b, h => by cases h; exact hr a
  | n + 1, a, b, h => by
    cases hc : step a with
    | none => rw [runN_none hc] at h; cases h
    | some c => rw [runN_some hc] at h; exact ht _ _ _ (hs _ _ hc) (runN_keeps hr ht hs n c b h)
theorem eachO_len {α : Type} {step : List α × List UInt8 → Option (List α × List UInt8)} (hs : ∀ a b, step a = some b → b.2.length ≤ a.2.length) {most : Nat} {st st' : List α × List UInt8} (h : eachO step most (fun st => st.2) (fun st r => (st.1, r)) st = some st') : st'.2.length ≤ st.2.length := by
  unfold eachO at h
  cases hc : cutN st.2 with
  | none => rw [hc] at h; cases h
  | some x =>
    rw [hc] at h
    simp only at h
    by_cases hm : x.1 ≤ most
    · rw [if_pos hm] at h
      have h1 := runN_keeps (R := fun a b : List α × List UInt8 => b.2.length ≤ a.2.length) (fun _ => Nat.le_refl _) (fun _ _ _ h k => Nat.le_trans k h) hs _ _ _ h
      have h2 := (cutN_lt (s := st.2) (n := x.1) (r := x.2) hc).2
      have h3 : st'.2.length ≤ x.2.length := h1
      omega
    · rw [if_neg hm] at h; cases h
theorem stepL_len {a b : List Lab × List UInt8} (h : stepL a = some b) : b.2.length ≤ a.2.length := by
  unfold stepL at h
  obtain ⟨b1, b2⟩ := b
  obtain ⟨x, hx, _⟩ := mapO_some h
  exact Nat.le_of_lt (cutL_lt hx).1
theorem cutR_len {s r : List UInt8} {x : RefL} (h : cutR s = some (x, r)) : r.length ≤ s.length := by
  unfold cutR bindO at h
  cases hc : mapO numI (cutN s) with
  | none => rw [hc] at h; cases h
  | some y =>
    obtain ⟨n, s1⟩ := y
    obtain ⟨n1, hn1, -⟩ := mapO_some hc
    rw [hc] at h
    simp only [Option.bind_some] at h
    obtain ⟨ls, hl, _⟩ := mapO_some h
    have h1 := eachO_len (fun a b => stepL_len) hl
    have h2 := cutN_len hn1
    have h3 : r.length ≤ s1.length := h1
    omega
set_option maxRecDepth 20000 in
set_option maxHeartbeats 4000000 in
theorem unp1_any (w : World) (Z b rb : Nat) (kind : Int) (k : Nat) (st : List RefL × List UInt8) (hk200 : k < 200) (hb : b < Z) (hrb : Z ≤ rb) (h : inRec Z b rb kind k st w) :
    Calls Tryz.prog 66 #[.pointer (some ⟨rb, 0, none⟩), .pointer (some ⟨b, 0, none⟩)] w (turned (fun st' w' => KZ Z b w w' ∧ inRec Z b rb kind (k + 1) st' w') (fun w' => KZ Z b w w') (stepR st)) := by
  obtain ⟨rs, s⟩ := st
  obtain ⟨hZ, hsl, hll, hin, v, hx, ho⟩ := h
  simp only at hsl hll hin ho
  obtain ⟨O, HO⟩ : ∃ O, Hid (stepR (rs, s) = O) := ⟨_, hide rfl⟩
  rw [HO.out]
  obtain ⟨ao, cp, rfl⟩ := ownRefs_shape ho
  obtain ⟨x, X1⟩ : ∃ x, Hid (((cutR s).getD ((0, []), [])).1 = x) := ⟨_, hide rfl⟩
  obtain ⟨s1, S1⟩ : ∃ s1, Hid (((cutR s).getD ((0, []), [])).2 = s1) := ⟨_, hide rfl⟩
  have C1 : Hid (∀ c, cutR s = some c → cutR s = some (x, s1) ∧ s1.length ≤ 140737488355328) := hide fun c hc => by
    obtain ⟨c1, c2⟩ := c
    have h1 := X1.out
    have h2 := S1.out
    rw [hc] at h1 h2
    simp only [Option.getD_some] at h1 h2
    subst h1 h2
    exact ⟨hc, by have := cutR_len hc; omega⟩
  have N1 : Hid (cutR s = none → O = none) := hide fun hc => by rw [← HO.out]; unfold stepR mapO; simp only; rw [hc]; rfl
  have Y : Hid (cutR s = some (x, s1) → O = some (rs ++ [x], s1)) := hide fun hc => by rw [← HO.out]; unfold stepR mapO; simp only; rw [hc]; rfl
  have HX := hide hx
  have HIN := hide hin
  have HOW := hide ho
  have HSL := hide hsl
  clear HO X1 S1 hx hin ho hsl
  go_enter Tryz.func66, Tryz.ntmps66
  go_wp2
  refine wp_region_state 6 8 mixedR rfl (by decide +kernel) (fun L vals w' => refJ w Z b rb kind rs s s1 x (.slice ao rs.length cp) (L 2) (vals 2) (L 3) (vals 3) (L 4) (vals 4) w')
    (fun L vals h => ?_)
    (fun i v => match i with
      | 0 => v = .pointer (some ⟨rb, 1, none⟩)
      | 1 => v = .slice ao rs.length cp
      | 2 => cutR s = some (x, s1)
      | 3 => True
      | 4 => ∃ ao' cp', v = .slice ao' (rs.length + 1) cp'
      | _ => v = .pointer (some ⟨rb, 1, none⟩))
    (gaveQ (O = none) Z b w) (fun ch a w2 hd hq => ?_) (fun i hi o ho a w2 L vals hLi hLc hLe hJ hoff hval hdep => ?_) (fun vals w2 L hL hJ hvals => ?_)
  · simp only [h]
    exact ⟨⟨rfl, rfl, rfl, Nat.le_refl _, fun _ _ _ => rfl⟩, hZ, HX.out, HIN.out, fun _ => HOW.out, (fun h => by cases h), (fun h => by cases h), (fun h => by cases h)⟩
  · obtain ⟨hq0, ⟨E, hE, hq1⟩, hq2⟩ := hq
    simp only [Ending.panicked.injEq] at hq1
    subst hq1
    refine ⟨hd, ?_⟩
    rw [hq0]
    exact ⟨⟨E, hE, rfl⟩, hq2⟩
  · obtain ⟨hk, hZ2, hrb2, hin2, hown, hv2, hnew, hown2⟩ := id hJ
    obtain ⟨cx0, cx1, cx2⟩ := three_of hrb2
    match i, hi with
    | 0, _ =>
      obtain rfl := Option.some.inj ho
      have o0 := hoff 0 (by decide +kernel)
      simp at o0
      simp [opYields, go_sem, o0]
      exact hJ
    | 1, _ =>
      obtain rfl := Option.some.inj ho
      have d0 := hdep 0 (by decide +kernel)
      simp [slotOf, dstOf] at d0
      simp [opYields, go_sem, d0, cx1]
      exact hJ
    | 2, _ =>
      have h3 : L 3 = false := by
        cases h : L 3 with
        | false => rfl
        | true => have := hLc 3 h 2 (by decide +kernel); rw [hLi] at this; cases this
      have h4 : L 4 = false := by
        cases h : L 4 with
        | false => rfl
        | true => have := hLc 4 h 3 (by decide +kernel); rw [h3] at this; cases this
      obtain rfl := Option.some.inj ho
      have o1 := hoff 1 (by decide +kernel)
      simp at o1
      simp [opYields, go_sem, o1]
      rw [hLi] at hin2
      refine (ref_any w2 b s hin2 HSL.out).mono ?_
      rintro e w3 ha
      unfold refAns at ha
      obtain ⟨hk3, ha⟩ := ha
      cases hc : cutR s with
      | none =>
        rw [hc] at ha
        obtain ⟨E, hE, rfl⟩ := ha
        exact ⟨N1.out hc, ⟨E, hE, rfl⟩, hk.trans (hk3.kz hZ2)⟩
      | some c =>
        obtain ⟨hc1, hc2⟩ := C1.out c hc
        obtain rfl : c = (x, s1) := by rw [hc] at hc1; exact Option.some.inj hc1
        rw [hc] at ha
        obtain ⟨lv, rfl, hlv, hi3⟩ := ha
        refine ⟨⟨hk.trans (hk3.kz hZ2), by have := hk3.size; omega, hk3.get hrb2 (by omega), by simpa using hi3, fun h => ownRefs_stay (hown h4) (hk3.stay hb), fun _ _ => ⟨lv, by simp, own_le hlv hZ2⟩, fun h => ?_, fun h => ?_⟩, ?_⟩
        · simp [h3] at h
        · simp [h4] at h
        · rfl
    | 3, _ =>
      have h2 := hLe 2 (by decide +kernel)
      have h4 : L 4 = false := by
        cases h : L 4 with
        | false => rfl
        | true => have := hLc 4 h 3 (by decide +kernel); rw [hLi] at this; cases this
      obtain rfl := Option.some.inj ho
      have d2 := hval 2 (by decide +kernel)
      simp [slotOf, dstOf] at d2
      obtain ⟨lv, e2, _⟩ := hv2 h2 hLi
      rw [e2] at d2
      rw [hLi, h2, h4] at hJ
      have hJ2 := hJ.lay e2
      simp [opYields, go_sem, d2, h2, h4]
      exact hJ2 _
    | 4, _ =>
      have h3 := hLe 3 (by decide +kernel)
      have h2 := hLc 3 h3 2 (by decide +kernel)
      obtain rfl := Option.some.inj ho
      have d1 := hdep 1 (by decide +kernel)
      have d3 := hval 3 (by decide +kernel)
      simp [slotOf, dstOf] at d1 d3
      rw [hLi, h3, h2] at hJ
      obtain ⟨ao', cp', w3, hrun, hJ3⟩ := refJ.append hJ (by omega) 22
      refine yields_append rfl (.tmp 3) (.tmp 5) _ _ rfl (v1 := .slice ao rs.length cp) (v2 := vals 3) (by simpa [Act.eval] using d1) (by simpa [Act.eval] using d3) hrun ?_
      simp only [h3, h2]
      exact ⟨hJ3 _, ao', cp', rfl⟩
    | 5, _ =>
      obtain rfl := Option.some.inj ho
      have o0 := hoff 0 (by decide +kernel)
      simp at o0
      simp [opYields, go_sem, o0]
      exact hJ
    | k + 6, h => exact absurd h (by omega)
  · have h2 := hL 2 (by omega)
    have h3 := hL 3 (by omega)
    have h4 := hL 4 (by omega)
    rw [h2, h3, h4] at hJ
    have hc1 := hvals 2 (by omega)
    simp only at hc1
    obtain ⟨ao', cp', v4⟩ := hvals 4 (by omega)
    have v5 := hvals 5 (by omega)
    simp only at v5
    have hP := hJ.put (k := k) (C1.out _ hc1).2 hll hrb (by omega)
    obtain ⟨_, _, hrb2, _⟩ := hJ
    rw [v4] at hP
    have HPT := hide hP
    have HY := hide (Y.out hc1)
    obtain ⟨cx0, cx1, cx2⟩ := three_of hrb2
    have z1 : w2.frozen? ⟨rb, 1, none⟩ = false := by simp only [World.frozen?, hrb2]; rfl
    clear hvals hP hrb2 hc1
    simp [over, dstOf, Act.put, v4, v5]
    go_wp2
    go_end0
    rw [HY.out]
    exact ⟨rfl, HPT.out⟩
/-- What holds while a point is read: ahead of it, behind it, when it is laid, and behind the append. -/
def pntJ (w : World) (Z b rb : Nat) (kind : Int) (rs : List Pnt) (s s1 : List UInt8) (x : Pnt) (v : Value) (q2 qn : Bool) (yn : Value) (qa : Bool) (ya : Value) (w' : World) : Prop :=
  KZ Z b w w' ∧ Z ≤ w'.heap.size ∧ w'.heap[rb]? = some (.cells #[.int .i64 kind, .slice none 0 0, v] 29 (0, 0)) ∧ InAt w' b (if q2 = true then s1 else s) ∧ (qa = false → ownPoints w' Z v rs) ∧
    (qn = true → qa = false → ∃ nb, yn = .slice (some ⟨nb, 0, none⟩) 1 1 ∧ w'.heap[nb]? = some (.cells #[.int .i64 x.1, .int .i64 x.2.1, .int .u64 (x.2.2 : Nat)] 64 (0, 0))) ∧
    (qa = true → ownPoints w' Z ya (rs ++ [x]))
theorem pntJ.lay {w : World} {Z b rb : Nat} {kind : Int} {rs : List Pnt} {s s1 : List UInt8} {x : Pnt} {v yn ya : Value} {w' : World} (h : pntJ w Z b rb kind rs s s1 x v true false yn false ya w') (za : Value) :
    pntJ w Z b rb kind rs s s1 x v true true (.slice (some ⟨w'.heap.size, 0, none⟩) 1 1) false za (w'.alloc (.cells #[.int .i64 x.1, .int .i64 x.2.1, .int .u64 (x.2.2 : Nat)] 64)) := by
  obtain ⟨hk, hZ, hr, hi, ho, _, _⟩ := h
  have hg : Grow w' (w'.alloc (.cells #[.int .i64 x.1, .int .i64 x.2.1, .int .u64 (x.2.2 : Nat)] 64)) := (Grow.refl _).alloc _
  exact ⟨hk.trans (belowKZ (Below.mono hg hZ) b), by have := hg.size; omega, hg.get hr, hi.grow hg, fun _ => Lb.own_grow (ho rfl) hg, fun _ _ => ⟨_, rfl, heap_alloc_new _ _⟩, fun h => by cases h⟩
set_option maxRecDepth 20000 in
theorem pntJ.append {w : World} {Z b rb : Nat} {kind : Int} {rs : List Pnt} {s s1 : List UInt8} {x : Pnt} {ao : Option Addr} {cp : Nat} {yn ya : Value} {w' : World} (h : pntJ w Z b rb kind rs s s1 x (.slice ao rs.length cp) true true yn false ya w') (hl : rs.length ≤ 1000) (ty : TypeId) :
    ∃ ao' cp' w3, (Builtin.append_ #[27, 27] ty #[.slice ao rs.length cp, yn]).run Tryz.prog w' = .ok (.slice ao' (rs.length + 1) cp') w3 ∧ ∀ zn, pntJ w Z b rb kind rs s s1 x (.slice ao rs.length cp) true true zn true (.slice ao' (rs.length + 1) cp') w3 := by
  obtain ⟨i0, hi0, hz0, hz1, hz2⟩ := info_parts infoPntT
  obtain ⟨hk, hZ, hr, hi, ho, hn, _⟩ := h
  have hrow := ho rfl
  obtain ⟨nb, rfl, hnb⟩ := hn rfl rfl
  obtain ⟨ao', cp', w3, hrun, hown3, hbel, hty⟩ := app_one (ty := ty) (news := [.int .i64 x.1, .int .i64 x.2.1, .int .u64 (x.2.2 : Nat)]) Tryz.underPnts hi0 hz0 hz1 hz2 rfl (by omega) hrow hnb rfl (by simp [Value.oneCell']) (by omega) (by omega) hZ
  refine ⟨ao', cp', w3, hrun, fun zn => ⟨hk.trans (belowKZ hbel b), by have := hbel.size; omega, hty _ _ _ _ hr (by decide), hty _ _ _ _ hi (by decide), (fun h => by cases h), (fun _ h => by cases h), fun _ => ?_⟩⟩
  unfold ownPoints
  rw [pntCells_snoc, List.length_append]
  exact hown3
/-- A record that is being read: its points so far, and what is not read yet. -/
def inRecP (Z b rb : Nat) (kind : Int) (k : Nat) (st : List Pnt × List UInt8) (w : World) : Prop :=
  Z ≤ w.heap.size ∧ st.2.length ≤ 140737488355328 ∧ st.1.length ≤ k ∧ InAt w b st.2 ∧ ∃ v, w.heap[rb]? = some (.cells #[.int .i64 kind, .slice none 0 0, v] 29 (0, 0)) ∧ ownPoints w Z v st.1
def stepP (st : List Pnt × List UInt8) : Option (List Pnt × List UInt8) := mapO (fun x => st.1 ++ [x]) (cutP st.2)
theorem pntJ.put {w : World} {Z b rb : Nat} {kind : Int} {rs : List Pnt} {s s1 : List UInt8} {x : Pnt} {v yn ya : Value} {w' : World} {k : Nat} (h : pntJ w Z b rb kind rs s s1 x v true true yn true ya w') (hs : s1.length ≤ 140737488355328) (hl : rs.length ≤ k) (hx : Z ≤ rb) (hbx : b ≠ rb) :
    KZ Z b w (w'.setCell ⟨rb, 2, none⟩ ya) ∧ inRecP Z b rb kind (k + 1) (rs ++ [x], s1) (w'.setCell ⟨rb, 2, none⟩ ya) := by
  obtain ⟨hk, hZ, hr, hi, _, _, ho⟩ := h
  refine ⟨hk.setNew hx _ _, by simpa [World.setCell] using hZ, hs, by rw [List.length_append]; simp; omega, hi.other (Ne.symm hbx) _ _, ya, ?_, ?_⟩
  · have := set3 hr 2 ya
    simpa using this
  · have ho := ho rfl
    exact ownsRow_setCell_other (a := ⟨rb, 2, none⟩) ho (own_apart ho hr (by decide)) _
theorem bindO_some {α β : Type} {o : Option (α × List UInt8)} {f : α → List UInt8 → Option (β × List UInt8)} {y : β × List UInt8} (h : bindO o f = some y) : ∃ x s, o = some (x, s) ∧ f x s = some y := by
  unfold bindO at h
  cases o with
  | none => cases h
  | some p => exact ⟨p.1, p.2, rfl, h⟩
theorem cutP_len {s r : List UInt8} {x : Pnt} (h : cutP s = some (x, r)) : r.length ≤ s.length := by
  unfold cutP at h
  obtain ⟨a, s1, h1, h⟩ := bindO_some h
  obtain ⟨t, s2, h2, h⟩ := bindO_some h
  obtain ⟨n1, e1, _⟩ := mapO_some h1
  obtain ⟨n2, e2, _⟩ := mapO_some h2
  obtain ⟨n3, e3, _⟩ := mapO_some h
  have := cutN_len e1
  have := cutN_len e2
  unfold cut8 at e3
  by_cases h8 : 8 ≤ s2.length
  · rw [if_pos h8] at e3
    cases e3
    rw [List.length_drop]
    omega
  · rw [if_neg h8] at e3; cases e3
set_option maxRecDepth 20000 in
set_option maxHeartbeats 4000000 in
theorem unp2_any (w : World) (Z b rb : Nat) (kind : Int) (k : Nat) (st : List Pnt × List UInt8) (hk200 : k < 200) (hb : b < Z) (hrb : Z ≤ rb) (h : inRecP Z b rb kind k st w) :
    Calls Tryz.prog 68 #[.pointer (some ⟨rb, 0, none⟩), .pointer (some ⟨b, 0, none⟩)] w (turned (fun st' w' => KZ Z b w w' ∧ inRecP Z b rb kind (k + 1) st' w') (fun w' => KZ Z b w w') (stepP st)) := by
  obtain ⟨rs, s⟩ := st
  obtain ⟨hZ, hsl, hll, hin, v, hx, ho⟩ := h
  simp only at hsl hll hin ho
  obtain ⟨O, HO⟩ : ∃ O, Hid (stepP (rs, s) = O) := ⟨_, hide rfl⟩
  rw [HO.out]
  obtain ⟨ao, cp, rfl⟩ := own_shape ho
  obtain ⟨x, X1⟩ : ∃ x, Hid (((cutP s).getD ((0, 0, 0), [])).1 = x) := ⟨_, hide rfl⟩
  obtain ⟨s1, S1⟩ : ∃ s1, Hid (((cutP s).getD ((0, 0, 0), [])).2 = s1) := ⟨_, hide rfl⟩
  have C1 : Hid (∀ c, cutP s = some c → cutP s = some (x, s1) ∧ s1.length ≤ 140737488355328) := hide fun c hc => by
    obtain ⟨c1, c2⟩ := c
    have h1 := X1.out
    have h2 := S1.out
    rw [hc] at h1 h2
    simp only [Option.getD_some] at h1 h2
    subst h1 h2
    exact ⟨hc, by have := cutP_len hc; omega⟩
  have N1 : Hid (cutP s = none → O = none) := hide fun hc => by rw [← HO.out]; unfold stepP mapO; simp only; rw [hc]; rfl
  have Y : Hid (cutP s = some (x, s1) → O = some (rs ++ [x], s1)) := hide fun hc => by rw [← HO.out]; unfold stepP mapO; simp only; rw [hc]; rfl
  have HX := hide hx
  have HIN := hide hin
  have HOW := hide ho
  have HSL := hide hsl
  clear HO X1 S1 hx hin ho hsl
  go_enter Tryz.func68, Tryz.ntmps68
  go_wp2
  refine wp_region_state 6 8 mixedR rfl (by decide +kernel) (fun L vals w' => pntJ w Z b rb kind rs s s1 x (.slice ao rs.length cp) (L 2) (L 3) (vals 3) (L 4) (vals 4) w')
    (fun L vals h => ?_)
    (fun i v => match i with
      | 0 => v = .pointer (some ⟨rb, 2, none⟩)
      | 1 => v = .slice ao rs.length cp
      | 2 => cutP s = some (x, s1) ∧ v = pntV x
      | 3 => True
      | 4 => ∃ ao' cp', v = .slice ao' (rs.length + 1) cp'
      | _ => v = .pointer (some ⟨rb, 2, none⟩))
    (gaveQ (O = none) Z b w) (fun ch a w2 hd hq => ?_) (fun i hi o ho a w2 L vals hLi hLc hLe hJ hoff hval hdep => ?_) (fun vals w2 L hL hJ hvals => ?_)
  · simp only [h]
    exact ⟨⟨rfl, rfl, rfl, Nat.le_refl _, fun _ _ _ => rfl⟩, hZ, HX.out, HIN.out, fun _ => HOW.out, (fun h => by cases h), (fun h => by cases h)⟩
  · obtain ⟨hq0, ⟨E, hE, hq1⟩, hq2⟩ := hq
    simp only [Ending.panicked.injEq] at hq1
    subst hq1
    refine ⟨hd, ?_⟩
    rw [hq0]
    exact ⟨⟨E, hE, rfl⟩, hq2⟩
  · obtain ⟨hk, hZ2, hrb2, hin2, hown, hnew, hown2⟩ := id hJ
    obtain ⟨cx0, cx1, cx2⟩ := three_of hrb2
    match i, hi with
    | 0, _ =>
      obtain rfl := Option.some.inj ho
      have o0 := hoff 0 (by decide +kernel)
      simp at o0
      simp [opYields, go_sem, o0]
      exact hJ
    | 1, _ =>
      obtain rfl := Option.some.inj ho
      have d0 := hdep 0 (by decide +kernel)
      simp [slotOf, dstOf] at d0
      simp [opYields, go_sem, d0, cx2]
      exact hJ
    | 2, _ =>
      have h3 : L 3 = false := by
        cases h : L 3 with
        | false => rfl
        | true => have := hLc 3 h 2 (by decide +kernel); rw [hLi] at this; cases this
      have h4 : L 4 = false := by
        cases h : L 4 with
        | false => rfl
        | true => have := hLc 4 h 3 (by decide +kernel); rw [h3] at this; cases this
      obtain rfl := Option.some.inj ho
      have o1 := hoff 1 (by decide +kernel)
      simp at o1
      simp [opYields, go_sem, o1]
      rw [hLi] at hin2
      refine (point_r w2 b s hin2 HSL.out).mono ?_
      rintro e w3 ha
      unfold readAs at ha
      obtain ⟨hk3, ha⟩ := ha
      cases hc : cutP s with
      | none =>
        rw [hc] at ha
        obtain ⟨E, hE, rfl⟩ := ha
        exact ⟨N1.out hc, ⟨E, hE, rfl⟩, hk.trans (hk3.kz hZ2)⟩
      | some c =>
        obtain ⟨hc1, hc2⟩ := C1.out c hc
        obtain rfl : c = (x, s1) := by rw [hc] at hc1; exact Option.some.inj hc1
        rw [hc] at ha
        obtain ⟨rfl, hi3⟩ := ha
        refine ⟨⟨hk.trans (hk3.kz hZ2), by have := hk3.size; omega, hk3.get hrb2 (by omega), by simpa using hi3, fun h => own_stay (hown h4) (hk3.stay hb), fun h => ?_, fun h => ?_⟩, ?_⟩
        · simp [h3] at h
        · simp [h4] at h
        · exact ⟨rfl, rfl⟩
    | 3, _ =>
      have h2 := hLe 2 (by decide +kernel)
      have h4 : L 4 = false := by
        cases h : L 4 with
        | false => rfl
        | true => have := hLc 4 h 3 (by decide +kernel); rw [hLi] at this; cases this
      obtain rfl := Option.some.inj ho
      have d2 := (hdep 2 (by decide +kernel)).2
      simp [slotOf, dstOf, pntV] at d2
      rw [hLi, h2, h4] at hJ
      have hJ2 := hJ.lay
      simp [opYields, go_sem, d2, h2, h4]
      exact hJ2 _
    | 4, _ =>
      have h3 := hLe 3 (by decide +kernel)
      have h2 := hLc 3 h3 2 (by decide +kernel)
      obtain rfl := Option.some.inj ho
      have d1 := hdep 1 (by decide +kernel)
      have d3 := hval 3 (by decide +kernel)
      simp [slotOf, dstOf] at d1 d3
      rw [hLi, h3, h2] at hJ
      obtain ⟨ao', cp', w3, hrun, hJ3⟩ := pntJ.append hJ (by omega) 27
      refine yields_append rfl (.tmp 3) (.tmp 5) _ _ rfl (v1 := .slice ao rs.length cp) (v2 := vals 3) (by simpa [Act.eval] using d1) (by simpa [Act.eval] using d3) hrun ?_
      simp only [h3, h2]
      exact ⟨hJ3 _, ao', cp', rfl⟩
    | 5, _ =>
      obtain rfl := Option.some.inj ho
      have o0 := hoff 0 (by decide +kernel)
      simp at o0
      simp [opYields, go_sem, o0]
      exact hJ
    | k + 6, h => exact absurd h (by omega)
  · have h2 := hL 2 (by omega)
    have h3 := hL 3 (by omega)
    have h4 := hL 4 (by omega)
    rw [h2, h3, h4] at hJ
    have hc1 := (hvals 2 (by omega)).1
    obtain ⟨ao', cp', v4⟩ := hvals 4 (by omega)
    have v5 := hvals 5 (by omega)
    simp only at v5
    have hP := hJ.put (k := k) (C1.out _ hc1).2 hll hrb (by omega)
    obtain ⟨_, _, hrb2, _⟩ := hJ
    rw [v4] at hP
    have HPT := hide hP
    have HY := hide (Y.out hc1)
    obtain ⟨cx0, cx1, cx2⟩ := three_of hrb2
    have z1 : w2.frozen? ⟨rb, 2, none⟩ = false := by simp only [World.frozen?, hrb2]; rfl
    clear hvals hP hrb2 hc1
    simp [over, dstOf, Act.put, v4, v5]
    go_wp2
    go_end0
    rw [HY.out]
    exact ⟨rfl, HPT.out⟩
end Go.Proofs.YtkaeogldielkfaaGreat.Rc
