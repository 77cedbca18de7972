/- 2 texts in one. -/
import Derived.Test.YtmdakfmecfcbhaaGreatProg
import Derived.Test.YtmdakfmecfcbhaaGreatK7e06493
import Derived.Test.YtmdakfmecfcbhaaGreatK85cc7d6
import Derived.Test.YtmdakfmecfcbhaaGreatK6271d58
import Derived.Deep.QuietTactic
import Derived.BigQuiet
set_option linter.unusedVariables false
set_option linter.unusedSimpArgs false
namespace Go.Proofs.YtmdakfmecfcbhaaGreat
open Go.RowKit
attribute [local go_sem] bs_size bs_toList bs_append bs_get bs_extract
theorem below_drewN (w : World) (n : Nat) : Below w.heap.size w (w.drewN n) := ⟨rfl, rfl, rfl, Nat.le_refl _, fun _ _ => rfl⟩
theorem take_self {l : List UInt8} {n : Nat} (h : l.length ≤ n) : l.take n = l := List.take_of_length_le h
set_option maxRecDepth 20000 in
set_option maxHeartbeats 1000000 in
theorem cutNumber_some (l r : List UInt8) (n : Nat) (w : World) (hs : l.length ≤ 9223372036854775807) (h : cutNum l = some (n, r)) :
    Calls Tryz.prog 123 #[.string (bs l)] w fun e w' => e = .returned (.tuple #[.int .u64 n, .string (bs r)]) ∧ Below w.heap.size w w' := by
  have hle := (readNum_le l).1
  have h0 : (readNum l).2.2 = 0 := by
    unfold cutNum at h
    split at h
    · assumption
    · simp at h
  have e1 : Hid ((readNum l).1 = n ∧ l.drop (readNum l).2.1 = r) := by
    unfold cutNum at h
    rw [if_pos h0] at h
    simp at h
    exact hide h
  obtain ⟨z, HZ⟩ : ∃ z, Hid ((readNum l).2.1 = z) := ⟨_, hide rfl⟩
  rw [HZ.out] at hle
  have H0 := hide h0
  clear h h0
  go_enter Tryz.func123, Tryz.ntmps123
  go_wp2_with fail
  refine (readNumber_any l w (by unfold maxLen; omega)).mono ?_
  rintro e w1 ⟨rfl, rfl⟩
  rw [H0.out, HZ.out, e1.out.1]
  go_wp2
  go_quiet (fail)
  go_wp2
  go_ret2
  refine ⟨?_, below_drewN _ _⟩
  have e2 : List.take (l.length - z) (List.drop z l) = r := by rw [take_self (by rw [List.length_drop]; exact Nat.le_refl _), ← HZ.out]; exact e1.out.2
  rw [← e2]
  rfl
set_option maxRecDepth 20000 in
set_option maxHeartbeats 1000000 in
theorem cutNumber_none (l : List UInt8) (w : World) (hs : l.length ≤ 9223372036854775807) (h : cutNum l = none) :
    Calls Tryz.prog 123 #[.string (bs l)] w fun e w' => e = gaveUp 1 ∧ w' = w := by
  have h0 : ¬ (readNum l).2.2 = 0 := by
    intro h0
    unfold cutNum at h
    rw [if_pos h0] at h
    simp at h
  have hne : (((readNum l).2.2 : Int) != 0) = true := by simpa using h0
  clear h h0
  go_enter Tryz.func123, Tryz.ntmps123
  go_wp2_with fail
  refine (readNumber_any l w (by unfold maxLen; omega)).mono ?_
  rintro e w1 ⟨rfl, rfl⟩
  go_wp2
  exact ⟨rfl, rfl, rfl⟩
/-- The head of a field. -/
def cutHd (l : List UInt8) : Option (Nat × List UInt8) :=
  match cutNum l with
  | none => none
  | some (h, r) => if h / 8 < 1 ∨ 536870911 < h / 8 then none else some (h, r)
set_option maxRecDepth 20000 in
set_option maxHeartbeats 1000000 in
theorem cutHead_some (l r : List UInt8) (h : Nat) (w : World) (hs : l.length ≤ 9223372036854775807) (hh : cutHd l = some (h, r)) :
    Calls Tryz.prog 122 #[.string (bs l)] w fun e w' => e = .returned (.tuple #[.int .u64 h, .string (bs r)]) ∧ Below w.heap.size w w' := by
  unfold cutHd at hh
  split at hh
  · simp at hh
  · rename_i h' r' hc
    split at hh
    · simp at hh
    · rename_i hb
      simp at hh
      obtain ⟨rfl, rfl⟩ := hh
      have HC := hide hc
      have HB := hide hb
      clear hc hb
      go_enter Tryz.func122, Tryz.ntmps122
      go_wp2_with fail
      refine (cutNumber_some l r' h' w hs HC.out).mono ?_
      rintro e w1 ⟨rfl, hb1⟩
      have hb := HB.out
      have b1 : ¬ (h' : Int) / 8 < 1 := by omega
      have b2 : ¬ 536870911 < (h' : Int) / 8 := by omega
      clear hb
      go_wp2
      go_ret2
      exact ⟨rfl, hb1⟩
set_option maxRecDepth 20000 in
set_option maxHeartbeats 1000000 in
theorem cutHead_none (l : List UInt8) (w : World) (hs : l.length ≤ 9223372036854775807) (hh : cutHd l = none) :
    Calls Tryz.prog 122 #[.string (bs l)] w fun e w' => e = gaveUp 1 ∧ Below w.heap.size w w' := by
  unfold cutHd at hh
  split at hh
  · rename_i hc
    have HC := hide hc
    clear hc hh
    go_enter Tryz.func122, Tryz.ntmps122
    go_wp2_with fail
    refine (cutNumber_none l w hs HC.out).mono ?_
    rintro e w1 ⟨rfl, rfl⟩
    exact ⟨rfl, rfl, Below.refl _ _⟩
  · rename_i h' r' hc
    split at hh
    · rename_i hb
      have HC := hide hc
      have hb' := hb
      clear hc hh hb
      go_enter Tryz.func122, Tryz.ntmps122
      go_wp2_with fail
      refine (cutNumber_some l r' h' w hs HC.out).mono ?_
      rintro e w1 ⟨rfl, hb1⟩
      have hq : IntKind.u64.wrap ((h' : Int) / 8) = (h' : Int) / 8 := wrap_u64_small _ (by omega) (by have := (cutNum_some HC.out).1; omega)
      by_cases b1 : (h' : Int) / 8 < 1
      · clear hb'
        go_wp2
        exact ⟨rfl, rfl, hb1⟩
      · have b2 : 536870911 < (h' : Int) / 8 := by omega
        clear hb'
        go_wp2
        exact ⟨rfl, rfl, hb1⟩
    · simp at hh
set_option maxRecDepth 20000 in
set_option maxHeartbeats 1000000 in
theorem cut_some (l : List UInt8) (n : Nat) (w : World) (hs : l.length ≤ 9223372036854775807) (hn : n ≤ l.length) :
    Calls Tryz.prog 124 #[.string (bs l), .int .u64 n] w fun e w' => e = .returned (.tuple #[.string (bs (l.take n)), .string (bs (l.drop n))]) ∧ Below w.heap.size w w' := by
  have h1 : ¬ (l.length : Int) < n := by omega
  go_enter Tryz.func124, Tryz.ntmps124
  go_wp2
  go_quiet (fail)
  go_wp2
  go_ret2
  refine ⟨?_, below_drewN _ _⟩
  have e2 : List.take (l.length - n) (List.drop n l) = List.drop n l := take_self (by rw [List.length_drop]; exact Nat.le_refl _)
  rw [e2]
  rfl
set_option maxRecDepth 20000 in
set_option maxHeartbeats 1000000 in
theorem cut_none (l : List UInt8) (n : Nat) (w : World) (hs : l.length ≤ 9223372036854775807) (hn : l.length < n) :
    Calls Tryz.prog 124 #[.string (bs l), .int .u64 n] w fun e w' => e = gaveUp 1 ∧ w' = w := by
  have h1 : (l.length : Int) < n := by omega
  go_enter Tryz.func124, Tryz.ntmps124
  go_wp2
  exact ⟨rfl, rfl, rfl⟩
set_option maxRecDepth 20000 in
set_option maxHeartbeats 1000000 in
theorem lowestFirst_any (l : List UInt8) (w : World) (hl : l.length ≤ 8) :
    Calls Tryz.prog 125 #[.string (bs l)] w fun e w' => e = .returned (.int .u64 (lowB l)) ∧ w' = w := by
  go_enter Tryz.func125, Tryz.ntmps125
  go_wp2
  go_loop [3, 4] (fun n i => ∃ (k : Int) (N : Nat), -1 ≤ k ∧ k < l.length ∧ i = .int .i64 k ∧ n = .int .u64 N ∧ Hid (N = lowB (l.drop (k + 1).toNat))) (fun _ i => (intOf i + 1).toNat)
  case atStart => exact ⟨(l.length : Int) - 1, 0, by omega, by omega, rfl, rfl, by show _ = _; rw [List.drop_eq_nil_of_le (by omega)]; rfl⟩
  case round =>
    obtain ⟨k, N, hk1, hk2, rfl, rfl, HN⟩ := hrel
    by_cases hk : 0 ≤ k
    · obtain ⟨j, rfl⟩ := Int.eq_ofNat_of_zero_le hk
      have hjl : j < l.length := by omega
      have HD : Hid (bits .or .u64 (IntKind.u64.wrap ((N : Int) * 256)) (IntKind.u64.wrap (l[j].toNat : Int)) = ((lowB (l.drop j) : Nat) : Int)) := by
        have := low_step l j hjl hl
        have hc := l[j].toNat_lt
        show _ = _
        rw [wrap_u64_small (l[j].toNat : Int) (by omega) (by omega), HN.out]; exact this
      go_wp2
      go_roundw
      case rel => exact ⟨(j : Int) - 1, lowB (l.drop j), by omega, by omega, rfl, by rw [HD.out], by show _ = _; rw [show ((j : Int) - 1 + 1).toNat = j from by omega]⟩
      case measure => simp [intOf]
    · go_wp2
      go_ret
      obtain rfl : k = -1 := by omega
      exact ⟨by rw [HN.out]; rfl, rfl⟩
theorem oneField_hd (l : List UInt8) : oneField l =
    match cutHd l with
    | none => none
    | some (h, r) =>
      if h % 8 = 0 then
        match cutNum r with
        | none => none
        | some (n, r') => some ((h, n, []), r')
      else if h % 8 = 1 then (if 8 ≤ r.length then some ((h, lowB (r.take 8), []), r.drop 8) else none)
      else if h % 8 = 2 then
        match cutNum r with
        | none => none
        | some (n, r') => if n ≤ r'.length then some ((h, 0, r'.take n), r'.drop n) else none
      else if h % 8 = 5 then (if 4 ≤ r.length then some ((h, 0, []), r.drop 4) else none)
      else none := by
  unfold oneField cutHd
  cases cutNum l with
  | none => rfl
  | some x =>
    obtain ⟨h, r⟩ := x
    simp only
    split <;> rfl
/-- A field as a value. -/
def fldV (f : Fld) : Value := .agg #[.int .u64 f.1, .int .u64 f.2.1, .string (bs f.2.2)]
def strLen : Value → Nat
  | .string s => s.size
  | _ => 0
def fieldsOk (okF : Fld → Bool) (s : List UInt8) : Bool := (fields s).2 && (fields s).1.all okF
theorem set_block {w : World} {b i : Nat} {c : Array Value} {t : TypeId} {fr : Nat × Nat} (h : w.heap[b]? = some (.cells c t fr)) (u : Value) : (w.setCell ⟨b, i, none⟩ u).heap[b]? = some (.cells (c.setIfInBounds i u) t fr) := by
  have hlt := lt_of_block h
  have h' : w.heap[b] = .cells c t fr := by simpa [Array.getElem?_eq_getElem hlt] using h
  show (w.heap.modify b _)[b]? = _
  rw [Array.getElem?_eq_getElem (by simpa using hlt), Array.getElem_modify_self, h']
  rfl
theorem three_cells {w : World} {b : Nat} {x y z : Value} {t : TypeId} (h : w.heap[b]? = some (.cells #[x, y, z] t (0, 0))) : w.cell? ⟨b, 0, none⟩ = some x ∧ w.cell? ⟨b, 1, none⟩ = some y ∧ w.cell? ⟨b, 2, none⟩ = some z ∧ w.frozen? ⟨b, 0, none⟩ = false ∧ w.frozen? ⟨b, 1, none⟩ = false ∧ w.frozen? ⟨b, 2, none⟩ = false := by simp [World.cell?, World.frozen?, h]
set_option maxRecDepth 20000 in
set_option maxHeartbeats 4000000 in
theorem eachField_any (s : List UInt8) (w : World) (g : Nat) (cap : Array Value) (I : List Fld → World → Prop) (okF : Fld → Bool) (Bad : World → Prop)
    (hs : s.length ≤ 9223372036854775807)
    (hcf : ∀ (args : Array Value) (w : World), (callFunc g args).run Tryz.prog w = .ok (.enter g args) w)
    (hI : I [] w) (hgrow : ∀ d w1 w2, I d w1 → Grow w1 w2 → I d w2) (hbad : ∀ d w1, I d w1 → Bad w1)
    (hstep : ∀ d f w1, I d w1 → f.1 < 18446744073709551616 → f.2.1 < 18446744073709551616 → f.2.2.length ≤ s.length → d.length < s.length →
      Calls Tryz.prog g (#[fldV f] ++ cap) w1 fun e w2 => (okF f = true ∧ e = .returned (.tuple #[]) ∧ I (d ++ [f]) w2) ∨ (okF f = false ∧ e = gaveUp 1 ∧ Bad w2)) :
    Calls Tryz.prog 107 #[.string (bs s), .func (.func g) #[] cap] w fun e w' =>
      (fieldsOk okF s = true ∧ e = .returned (.tuple #[]) ∧ I (fields s).1 w') ∨ (fieldsOk okF s = false ∧ e = gaveUp 1 ∧ Bad w') := by
  have HStep := hide hstep
  have HGrow := hide hgrow
  have HBad := hide hbad
  clear hstep hgrow hbad
  go_enter Tryz.func107, Tryz.ntmps107
  go_wp2
  go_loopw [0] (fun v wr => ∃ (d : List Fld) (rest : List UInt8), v = .string (bs rest) ∧ Hid (I d wr) ∧ Hid ((fields s).1 = d ++ (fields rest).1 ∧ (fields s).2 = (fields rest).2 ∧ d.all okF = true) ∧ d.length + rest.length ≤ s.length) (fun v _ => strLen v)
  case atStart => exact ⟨[], s, rfl, hI, ⟨rfl, rfl, rfl⟩, by simp⟩
  case round =>
    obtain ⟨d, rest, rfl, HI, HR, hlen⟩ := hrel
    by_cases hnil : rest = []
    · subst hnil
      go_wp2
      go_end0
      refine .inl ⟨?_, rfl, ?_⟩
      · simp only [fieldsOk, HR.out.1, HR.out.2.1, fields_nil]
        simpa using HR.out.2.2
      · rw [HR.out.1, fields_nil, List.append_nil]; exact HI.out
    · have hpos : 0 < rest.length := List.length_pos_iff.2 hnil
      have HN := hide hnil
      clear hnil
      rename World => wr
      -- what comes of a text that is wrong here
      have HF : Hid (oneField rest = none → fieldsOk okF s = false) := fun h => by
        simp only [fieldsOk, HR.out.2.1, fields_none HN.out h]; rfl
      have hg0 : Grow wr (wr.alloc (.cells #[.int .u64 0, .int .u64 0, .string { data := #[] }] 133)) := (Grow.refl _).alloc _
      have hb0 : (wr.alloc (.cells #[.int .u64 0, .int .u64 0, .string { data := #[] }] 133)).heap[wr.heap.size]? = some (.cells #[.int .u64 0, .int .u64 0, .string { data := #[] }] 133 (0, 0)) := heap_alloc_new _ _
      cases hh : cutHd rest with
      | none =>
        have HH := hide hh
        clear hh
        go_wp2_with fail
        refine (cutHead_none rest _ (by omega) HH.out).mono ?_
        rintro e w1 ⟨rfl, hb1⟩
        refine ⟨rfl, .inr ⟨HF.out (by rw [oneField_hd, HH.out]), rfl, HBad.out _ _ (HGrow.out _ _ _ HI.out (hg0.trans hb1))⟩⟩
      | some x =>
        obtain ⟨h, r⟩ := x
        have HH := hide hh
        clear hh
        go_wp2_with fail
        refine (cutHead_some rest r h _ (by omega) HH.out).mono ?_
        rintro e w1 ⟨rfl, hb1⟩
        have hblk := hb1.block _ (lt_of_block hb0) |>.trans hb0
        have hg1 : Grow wr w1 := hg0.trans hb1
        obtain ⟨c0, c1, c2, z0, z1, z2⟩ := three_cells hblk
        have HB := hide hblk
        have hlr : r.length < rest.length := by
          have hh := HH.out
          unfold cutHd at hh
          split at hh
          · simp at hh
          · rename_i h' r' hc
            have := (cutNum_some hc).2
            split at hh
            · simp at hh
            · simp at hh; obtain ⟨rfl, rfl⟩ := hh; omega
        have hs1 := hg1.size
        -- the head is laid
        have hblk2 : (w1.setCell ⟨wr.heap.size, 0, none⟩ (.int .u64 (h : Int))).heap[wr.heap.size]? = some (.cells #[.int .u64 h, .int .u64 0, .string { data := #[] }] 133 (0, 0)) := set_block hblk _
        have hg2 : Grow wr (w1.setCell ⟨wr.heap.size, 0, none⟩ (.int .u64 (h : Int))) := Below.setCell hg1 (Nat.le_refl _) _
        clear hblk hb0
        have h8 : h < 18446744073709551616 := by
          have hh := HH.out
          unfold cutHd at hh
          split at hh
          · simp at hh
          · rename_i h' r' hc
            have := (cutNum_some hc).1
            split at hh
            · simp at hh
            · simp at hh; obtain ⟨rfl, rfl⟩ := hh; exact this
        have HL8 := hide h8
        clear h8
        by_cases m0 : h % 8 = 0
        · have t0 : ((h : Int) % 8 == 0) = true := by rw [beq_iff_eq]; omega
          go_wp2_with fail
          cases hn : cutNum r with
          | none =>
            have HC := hide hn
            clear hn
            refine (cutNumber_none r _ (by omega) HC.out).mono ?_
            rintro e w2 ⟨rfl, rfl⟩
            exact ⟨rfl, .inr ⟨HF.out (by rw [oneField_hd, HH.out]; simp only [m0, if_true, HC.out]), rfl, HBad.out _ _ (HGrow.out _ _ _ HI.out hg2)⟩⟩
          | some y =>
            obtain ⟨n, r2⟩ := y
            have HC := hide hn
            clear hn
            refine (cutNumber_some r r2 n _ (by omega) HC.out).mono ?_
            rintro e w2 ⟨rfl, hb2⟩
            have hblk3 := (hb2.block _ (lt_of_block hblk2)).trans hblk2
            have hg3 : Grow wr w2 := hg2.trans hb2
            obtain ⟨d0, d1, d2, y0, y1, y2⟩ := three_cells hblk3
            have hblk4 : (w2.setCell ⟨wr.heap.size, 1, none⟩ (.int .u64 (n : Int))).heap[wr.heap.size]? = some (.cells #[.int .u64 h, .int .u64 n, .string { data := #[] }] 133 (0, 0)) := set_block hblk3 _
            have hg4 : Grow wr (w2.setCell ⟨wr.heap.size, 1, none⟩ (.int .u64 (n : Int))) := Below.setCell hg3 (Nat.le_refl _) _
            clear c0 c1 c2 z0 z1 z2 hblk2 hblk3
            go_wp2_with fail
            have hone := hide (show oneField rest = some ((h, n, []), r2) from by rw [oneField_hd, HH.out]; simp only [m0, if_true, HC.out])
            have hsh := oneField_shorter hone.out
            have hfs := hide (fields_some HN.out hone.out)
            refine (HStep.out d (h, n, []) _ (HGrow.out _ _ _ HI.out hg4) hsh.2.1 hsh.2.2.1 (by have := hsh.2.2.2; omega) (by omega)).mono ?_
            rintro e w9 (⟨hok, rfl, hI9⟩ | ⟨hok, rfl, hB9⟩)
            · have HI9 := hide hI9
              have HOk := hide hok
              have hlt9 := hsh.1
              clear hI9 hok
              go_wp2
              go_roundw
              case rel => exact ⟨d ++ [(h, n, [])], r2, rfl, HI9, ⟨by rw [HR.out.1, hfs.out]; simp, by rw [HR.out.2.1, hfs.out], by rw [List.all_append, HR.out.2.2]; simp [HOk.out]⟩, by simp; omega⟩
              case measure => simp only [strLen, bs_size]; omega
            · refine ⟨rfl, .inr ⟨?_, rfl, hB9⟩⟩
              simp only [fieldsOk, HR.out.1, HR.out.2.1, hfs.out, List.all_append, List.all_cons, hok]
              simp
        · by_cases m1 : h % 8 = 1
          · have t0 : ((h : Int) % 8 == 0) = false := by rw [beq_eq_false_iff_ne]; omega
            have t1 : ((h : Int) % 8 == 1) = true := by rw [beq_iff_eq]; omega
            go_wp2_with fail
            by_cases h8 : 8 ≤ r.length
            · refine (cut_some r 8 _ (by omega) h8).mono ?_
              rintro e w2 ⟨rfl, hb2⟩
              have hblk3 := (hb2.block _ (lt_of_block hblk2)).trans hblk2
              have hg3 : Grow wr w2 := hg2.trans hb2
              obtain ⟨d0, d1, d2, y0, y1, y2⟩ := three_cells hblk3
              clear c0 c1 c2 z0 z1 z2 hblk2
              go_wp2_with fail
              refine (lowestFirst_any (r.take 8) w2 (by rw [List.length_take]; omega)).mono ?_
              rintro e w3 ⟨rfl, rfl⟩
              have hblk4 : (w3.setCell ⟨wr.heap.size, 1, none⟩ (.int .u64 (lowB (r.take 8) : Int))).heap[wr.heap.size]? = some (.cells #[.int .u64 h, .int .u64 (lowB (r.take 8)), .string { data := #[] }] 133 (0, 0)) := set_block hblk3 _
              have hg4 : Grow wr (w3.setCell ⟨wr.heap.size, 1, none⟩ (.int .u64 (lowB (r.take 8) : Int))) := Below.setCell hg3 (Nat.le_refl _) _
              go_wp2_with fail
              have hone := hide (show oneField rest = some ((h, lowB (r.take 8), []), (r.drop 8)) from by rw [oneField_hd, HH.out]; simp only [m1, h8, if_true]; rfl)
              have hsh := oneField_shorter hone.out
              have hfs := hide (fields_some HN.out hone.out)
              refine (HStep.out d (h, lowB (r.take 8), []) _ (HGrow.out _ _ _ HI.out hg4) hsh.2.1 hsh.2.2.1 (by have := hsh.2.2.2; omega) (by omega)).mono ?_
              rintro e w9 (⟨hok, rfl, hI9⟩ | ⟨hok, rfl, hB9⟩)
              · have HI9 := hide hI9
                have HOk := hide hok
                have hlt9 := hsh.1
                clear hI9 hok
                go_wp2
                go_roundw
                case rel => exact ⟨d ++ [(h, lowB (r.take 8), [])], (r.drop 8), rfl, HI9, ⟨by rw [HR.out.1, hfs.out]; simp, by rw [HR.out.2.1, hfs.out], by rw [List.all_append, HR.out.2.2]; simp [HOk.out]⟩, by simp; omega⟩
                case measure => simp only [strLen, bs_size]; omega
              · refine ⟨rfl, .inr ⟨?_, rfl, hB9⟩⟩
                simp only [fieldsOk, HR.out.1, HR.out.2.1, hfs.out, List.all_append, List.all_cons, hok]
                simp
            · refine (cut_none r 8 _ (by omega) (by omega)).mono ?_
              rintro e w2 ⟨rfl, rfl⟩
              exact ⟨rfl, .inr ⟨HF.out (by rw [oneField_hd, HH.out]; simp only [m1, h8, if_false, if_true]; rfl), rfl, HBad.out _ _ (HGrow.out _ _ _ HI.out hg2)⟩⟩
          · by_cases m2 : h % 8 = 2
            · have t0 : ((h : Int) % 8 == 0) = false := by rw [beq_eq_false_iff_ne]; omega
              have t1 : ((h : Int) % 8 == 1) = false := by rw [beq_eq_false_iff_ne]; omega
              have t2 : ((h : Int) % 8 == 2) = true := by rw [beq_iff_eq]; omega
              go_wp2_with fail
              cases hn : cutNum r with
              | none =>
                have HC := hide hn
                clear hn
                refine (cutNumber_none r _ (by omega) HC.out).mono ?_
                rintro e w2 ⟨rfl, rfl⟩
                exact ⟨rfl, .inr ⟨HF.out (by rw [oneField_hd, HH.out]; simp only [m2, HC.out]; rfl), rfl, HBad.out _ _ (HGrow.out _ _ _ HI.out hg2)⟩⟩
              | some y =>
                obtain ⟨n, r2⟩ := y
                have HC := hide hn
                clear hn
                have hr2 := (cutNum_some HC.out).2
                refine (cutNumber_some r r2 n _ (by omega) HC.out).mono ?_
                rintro e w2 ⟨rfl, hb2⟩
                have hblk3 := (hb2.block _ (lt_of_block hblk2)).trans hblk2
                have hg3 : Grow wr w2 := hg2.trans hb2
                obtain ⟨d0, d1, d2, y0, y1, y2⟩ := three_cells hblk3
                clear c0 c1 c2 z0 z1 z2 hblk2
                go_wp2_with fail
                by_cases hn2 : n ≤ r2.length
                · refine (cut_some r2 n _ (by omega) hn2).mono ?_
                  rintro e w3 ⟨rfl, hb3⟩
                  have hblk4 := (hb3.block _ (lt_of_block hblk3)).trans hblk3
                  have hg4 : Grow wr w3 := hg3.trans hb3
                  obtain ⟨c0, c1, c2, z0, z1, z2⟩ := three_cells hblk4
                  clear d0 d1 d2 y0 y1 y2 hblk3
                  have hblk5 : (w3.setCell ⟨wr.heap.size, 2, none⟩ (.string (bs (r2.take n)))).heap[wr.heap.size]? = some (.cells #[.int .u64 h, .int .u64 0, .string (bs (r2.take n))] 133 (0, 0)) := set_block hblk4 _
                  have hg5 : Grow wr (w3.setCell ⟨wr.heap.size, 2, none⟩ (.string (bs (r2.take n)))) := Below.setCell hg4 (Nat.le_refl _) _
                  go_wp2_with fail
                  have hone := hide (show oneField rest = some ((h, 0, r2.take n), (r2.drop n)) from by rw [oneField_hd, HH.out]; simp only [m2, HC.out, hn2, if_true]; rfl)
                  have hsh := oneField_shorter hone.out
                  have hfs := hide (fields_some HN.out hone.out)
                  refine (HStep.out d (h, 0, r2.take n) _ (HGrow.out _ _ _ HI.out hg5) hsh.2.1 hsh.2.2.1 (by have := hsh.2.2.2; omega) (by omega)).mono ?_
                  rintro e w9 (⟨hok, rfl, hI9⟩ | ⟨hok, rfl, hB9⟩)
                  · have HI9 := hide hI9
                    have HOk := hide hok
                    have hlt9 := hsh.1
                    clear hI9 hok
                    go_wp2
                    go_roundw
                    case rel => exact ⟨d ++ [(h, 0, r2.take n)], (r2.drop n), rfl, HI9, ⟨by rw [HR.out.1, hfs.out]; simp, by rw [HR.out.2.1, hfs.out], by rw [List.all_append, HR.out.2.2]; simp [HOk.out]⟩, by simp; omega⟩
                    case measure => simp only [strLen, bs_size]; omega
                  · refine ⟨rfl, .inr ⟨?_, rfl, hB9⟩⟩
                    simp only [fieldsOk, HR.out.1, HR.out.2.1, hfs.out, List.all_append, List.all_cons, hok]
                    simp
                · refine (cut_none r2 n _ (by omega) (by omega)).mono ?_
                  rintro e w3 ⟨rfl, rfl⟩
                  exact ⟨rfl, .inr ⟨HF.out (by rw [oneField_hd, HH.out]; simp only [m2, HC.out, hn2, if_false]; rfl), rfl, HBad.out _ _ (HGrow.out _ _ _ HI.out hg3)⟩⟩
            · have t0 : ((h : Int) % 8 == 0) = false := by rw [beq_eq_false_iff_ne]; omega
              have t1 : ((h : Int) % 8 == 1) = false := by rw [beq_eq_false_iff_ne]; omega
              have t2 : ((h : Int) % 8 == 2) = false := by rw [beq_eq_false_iff_ne]; omega
              by_cases m5 : h % 8 = 5
              · have t5 : ((h : Int) % 8 == 5) = true := by rw [beq_iff_eq]; omega
                go_wp2_with fail
                by_cases h4 : 4 ≤ r.length
                · refine (cut_some r 4 _ (by omega) h4).mono ?_
                  rintro e w2 ⟨rfl, hb2⟩
                  have hblk3 := (hb2.block _ (lt_of_block hblk2)).trans hblk2
                  have hg3 : Grow wr w2 := hg2.trans hb2
                  obtain ⟨d0, d1, d2, y0, y1, y2⟩ := three_cells hblk3
                  clear c0 c1 c2 z0 z1 z2 hblk2
                  go_wp2_with fail
                  have hone := hide (show oneField rest = some ((h, 0, []), (r.drop 4)) from by rw [oneField_hd, HH.out]; simp only [m5, h4, if_true]; rfl)
                  have hsh := oneField_shorter hone.out
                  have hfs := hide (fields_some HN.out hone.out)
                  refine (HStep.out d (h, 0, []) _ (HGrow.out _ _ _ HI.out hg3) hsh.2.1 hsh.2.2.1 (by have := hsh.2.2.2; omega) (by omega)).mono ?_
                  rintro e w9 (⟨hok, rfl, hI9⟩ | ⟨hok, rfl, hB9⟩)
                  · have HI9 := hide hI9
                    have HOk := hide hok
                    have hlt9 := hsh.1
                    clear hI9 hok
                    go_wp2
                    go_roundw
                    case rel => exact ⟨d ++ [(h, 0, [])], (r.drop 4), rfl, HI9, ⟨by rw [HR.out.1, hfs.out]; simp, by rw [HR.out.2.1, hfs.out], by rw [List.all_append, HR.out.2.2]; simp [HOk.out]⟩, by simp; omega⟩
                    case measure => simp only [strLen, bs_size]; omega
                  · refine ⟨rfl, .inr ⟨?_, rfl, hB9⟩⟩
                    simp only [fieldsOk, HR.out.1, HR.out.2.1, hfs.out, List.all_append, List.all_cons, hok]
                    simp
                · refine (cut_none r 4 _ (by omega) (by omega)).mono ?_
                  rintro e w2 ⟨rfl, rfl⟩
                  exact ⟨rfl, .inr ⟨HF.out (by rw [oneField_hd, HH.out]; simp only [m5, h4, if_false]; rfl), rfl, HBad.out _ _ (HGrow.out _ _ _ HI.out hg2)⟩⟩
              · have t5 : ((h : Int) % 8 == 5) = false := by rw [beq_eq_false_iff_ne]; omega
                go_wp2
                exact ⟨rfl, .inr ⟨HF.out (by rw [oneField_hd, HH.out]; simp only [m0, m1, m2, m5, if_false]), rfl, HBad.out _ _ (HGrow.out _ _ _ HI.out hg2)⟩⟩
end Go.Proofs.YtmdakfmecfcbhaaGreat
