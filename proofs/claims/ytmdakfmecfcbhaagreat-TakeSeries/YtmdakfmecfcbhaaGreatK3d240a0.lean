/- 2 texts in one. -/
import Derived.Test.YtmdakfmecfcbhaaGreatProg
import Derived.Test.YtmdakfmecfcbhaaGreatK7e06493
import Derived.Test.YtmdakfmecfcbhaaGreatK85cc7d6
import Derived.Test.YtmdakfmecfcbhaaGreatK2326a0d
import Derived.Test.YtmdakfmecfcbhaaGreatK3e23582
import Derived.Test.YtmdakfmecfcbhaaGreatKcd6d4df
import Derived.Test.YtmdakfmecfcbhaaGreatK658df2a
set_option linter.unusedVariables false
set_option linter.unusedSimpArgs false
namespace Go.Proofs.YtmdakfmecfcbhaaGreat
open Go.RowKit
attribute [local go_sem] bs_size bs_toList bs_append bs_get bs_extract
set_option maxRecDepth 20000 in
set_option maxHeartbeats 2000000 in
theorem little_some (w : World) (atb sb p many : Nat) (s : List UInt8) (hat : w.heap[atb]? = some (.cells #[.int .i64 p] 3 (0, 0))) (hsb : w.heap[sb]? = some (.cells #[.string (bs s)] 9 (0, 0))) (hs : s.length ≤ 140737488355328) (hm : many ≤ 4) (h : p + many ≤ s.length) :
    Calls Tryz.prog 58 #[.int .i64 many, .pointer (some ⟨atb, 0, none⟩), .pointer (some ⟨sb, 0, none⟩)] w fun e w' => e = .returned (.int .i64 (lowB ((s.drop p).take many))) ∧ w' = w.setCell ⟨atb, 0, none⟩ (.int .i64 ((p : Int) + many)) := by
  have c0 := cell_of_one hat
  have z0 := free_of_one hat
  have d0 := cell_of_one hsb
  obtain ⟨T, HTe⟩ : ∃ T, Hid ((s.drop p).take many = T) := ⟨_, hide rfl⟩
  have HT : Hid (T.length = many) := by show _ = _; rw [← HTe.out, List.length_take, List.length_drop]; omega
  have HG : Hid (∀ (j : Nat) (hj : j < many) (h1 : p + j < s.length), s[p + j] = T[j]'(by rw [HT.out]; exact hj)) := fun j hj h1 => by
    have : T[j]'(by rw [HT.out]; exact hj) = ((s.drop p).take many)[j]'(by rw [HTe.out, HT.out]; exact hj) := by simp only [HTe.out]
    rw [this, List.getElem_take, List.getElem_drop]
  have hno : ¬ ((s.length : Int) < (p : Int) + many) := by omega
  go_enter Tryz.func58, Tryz.ntmps58
  go_wp2
  go_loop [5, 6] (fun v i => ∃ (k : Int) (N : Nat), -1 ≤ k ∧ k < many ∧ i = .int .i64 k ∧ v = .int .i64 N ∧ Hid (N = lowB (T.drop (k + 1).toNat))) (fun _ i => (intOf i + 1).toNat)
  case atStart => exact ⟨(many : Int) - 1, 0, by omega, by omega, rfl, rfl, by show _ = _; rw [List.drop_eq_nil_of_le (by rw [HT.out]; omega)]; rfl⟩
  case round =>
    obtain ⟨k, N, hk1, hk2, rfl, rfl, HN⟩ := hrel
    by_cases hk : 0 ≤ k
    · obtain ⟨j, rfl⟩ := Int.eq_ofNat_of_zero_le hk
      have hjl : j < T.length := by rw [HT.out]; omega
      have hjs : p + j < s.length := by omega
      have HD : Hid (wrap64 (wrap64 (256 * (N : Int)) + wrap64 (s[p + j].toNat : Int)) = ((lowB (T.drop j) : Nat) : Int)) := by
        have q1 := lowB_drop T j hjl
        have q2 := lowB_drop_le T j
        have q3 := lowB_lt T
        have q4 : 256 ^ T.length ≤ 256 ^ 4 := Nat.pow_le_pow_right (by omega) (by rw [HT.out]; exact hm)
        have q5 : N = lowB (T.drop (j + 1)) := HN.out
        have q6 := T[j].toNat_lt
        show _ = _
        rw [HG.out j (by omega) hjs, wrap64_small (256 * (N : Int)) (by omega) (by omega), wrap64_small (T[j].toNat : Int) (by omega) (by omega), wrap64_small _ (by omega) (by omega)]
        omega
      go_wp2
      go_round
      case rel => exact ⟨(j : Int) - 1, lowB (T.drop j), by omega, by omega, rfl, by rw [HD.out], by show _ = _; rw [show ((j : Int) - 1 + 1).toNat = j from by omega]⟩
      case measure => simp [intOf]
    · obtain rfl : k = -1 := by omega
      go_wp2
      go_ret
      exact ⟨by rw [HTe.out, HN.out]; rfl, rfl⟩
set_option maxRecDepth 20000 in
set_option maxHeartbeats 2000000 in
theorem little_none (w : World) (atb sb p many : Nat) (s : List UInt8) (hat : w.heap[atb]? = some (.cells #[.int .i64 p] 3 (0, 0))) (hsb : w.heap[sb]? = some (.cells #[.string (bs s)] 9 (0, 0))) (hs : s.length ≤ 140737488355328) (hm : many ≤ 4) (hp : p ≤ s.length) (h : s.length < p + many) :
    Calls Tryz.prog 58 #[.int .i64 many, .pointer (some ⟨atb, 0, none⟩), .pointer (some ⟨sb, 0, none⟩)] w fun e w' => e = .returned (.int .i64 (-1)) ∧ w' = w := by
  have c0 := cell_of_one hat
  have d0 := cell_of_one hsb
  have hno : (s.length : Int) < (p : Int) + many := by omega
  go_enter Tryz.func58, Tryz.ntmps58
  go_wp2
  go_ret
  exact ⟨rfl, rfl⟩
theorem numAt_cases (l : List UInt8) : (∃ key n, numAt l = (key, n, 0) ∧ 1 ≤ n ∧ n ≤ l.length ∧ key < 18446744073709551616 ∧ cutNum l = some (key, l.drop n)) ∨ (∃ e, (e = 1 ∨ e = 3) ∧ numAt l = (0, 0, e) ∧ cutNum l = none) := by
  rcases numAt_read l with ⟨h1, h2⟩ | ⟨h1, h2⟩
  · left
    have hr := readNum_le l
    rw [h2] at hr
    refine ⟨(numAt l).1, (numAt l).2.1, ?_, hr.2.1 h1, hr.1, hr.2.2, ?_⟩
    · rw [← h1]
    · rw [cutNum_at, if_pos h1]
  · right
    refine ⟨(numAt l).2.2, ?_, ?_, ?_⟩
    · unfold numAt at h1 ⊢
      split
      · exact .inl rfl
      · split
        · exact .inr rfl
        · rename_i c1 c2
          rw [if_neg c1, if_neg c2] at h1
          exact absurd rfl h1
    · unfold numAt at h1 ⊢
      split
      · rfl
      · split
        · rfl
        · rename_i c1 c2
          rw [if_neg c1, if_neg c2] at h1
          exact absurd rfl h1
    · rw [cutNum_at, if_neg h1]
theorem cutLow_at (n p : Nat) (s : List UInt8) (h : p + n ≤ s.length) : cutLow n (s.drop p) = some (lowB ((s.drop p).take n), s.drop (p + n)) := by
  unfold cutLow
  rw [if_pos (by rw [List.length_drop]; omega), List.drop_drop]
theorem cutLow_out (n p : Nat) (s : List UInt8) (hp : p ≤ s.length) (h : s.length < p + n) : cutLow n (s.drop p) = none := by
  unfold cutLow
  rw [if_neg (by rw [List.length_drop]; omega)]
theorem cutLow_one (p : Nat) (s : List UInt8) (h : p < s.length) : cutLow 1 (s.drop p) = some (s[p].toNat, s.drop (p + 1)) := by
  rw [cutLow_at 1 p s (by omega), List.drop_eq_getElem_cons h]
  rfl
/-- Where the reading stands. -/
def atOf (w : World) (b : Nat) : Nat := match w.heap[b]? with | some (.cells c _ _) => (intOf (c.getD 0 undef)).toNat | _ => 0
theorem little_some_i (w : World) (atb sb p many : Nat) (pi mi : Int) (s : List UInt8) (hat : w.heap[atb]? = some (.cells #[.int .i64 pi] 3 (0, 0))) (hsb : w.heap[sb]? = some (.cells #[.string (bs s)] 9 (0, 0))) (hs : s.length ≤ 140737488355328) (hpi : pi = (p : Int)) (hmi : mi = (many : Int)) (hm : many ≤ 4) (h : p + many ≤ s.length) :
    Calls Tryz.prog 58 #[.int .i64 mi, .pointer (some ⟨atb, 0, none⟩), .pointer (some ⟨sb, 0, none⟩)] w fun e w' => e = .returned (.int .i64 (lowB ((s.drop p).take many))) ∧ w' = w.setCell ⟨atb, 0, none⟩ (.int .i64 ((p : Int) + many)) := by
  subst hpi; subst hmi; exact little_some w atb sb p many s hat hsb hs hm h
theorem little_none_i (w : World) (atb sb p many : Nat) (pi mi : Int) (s : List UInt8) (hat : w.heap[atb]? = some (.cells #[.int .i64 pi] 3 (0, 0))) (hsb : w.heap[sb]? = some (.cells #[.string (bs s)] 9 (0, 0))) (hs : s.length ≤ 140737488355328) (hpi : pi = (p : Int)) (hmi : mi = (many : Int)) (hm : many ≤ 4) (hp : p ≤ s.length) (h : s.length < p + many) :
    Calls Tryz.prog 58 #[.int .i64 mi, .pointer (some ⟨atb, 0, none⟩), .pointer (some ⟨sb, 0, none⟩)] w fun e w' => e = .returned (.int .i64 (-1)) ∧ w' = w := by
  subst hpi; subst hmi; exact little_none w atb sb p many s hat hsb hs hm hp h
/-- A byte more, in the row that a call owns: as the walk has it. -/
theorem append_byte {W : World} {ops : Array Oper} {rest : List Oper} {o : Oper} {a : Act} {Q : Exit → Act → World → Prop} (hgd : o.guard = none) (s x : Operand)
    (ho : o.op = .call { callee := .builtin .append, args := #[s, x], argTypes := #[63, 63] })
    (base : Nat) (v : Value) (d : List UInt8) (c : UInt8) (ci : Int) (hci : ci = (c.toNat : Int)) (hs : a.eval s = v) (hown : W.ownsRow base 5 1 v d.length (bytesV d)) (hx : a.eval x = .slice (some ⟨W.heap.size, 0, none⟩) 1 1)
    (hlen : d.length ≤ 1000000) (hbase : base ≤ W.heap.size)
    (h : ∀ ao cp w', w'.ownsRow base 5 1 (.slice ao (d.length + 1) cp) (d ++ [c]).length (bytesV (d ++ [c])) → Below base W w' → wpList Tryz.prog ops Q rest (a.put o.dst (.slice ao (d.length + 1) cp)) w') :
    wpList Tryz.prog ops Q (o :: rest) a (W.alloc (.cells #[.int .u8 ci] 5)) := by
  subst hci
  obtain ⟨i0, hi0, hz0, hz1, hz2⟩ := info_parts Tryz.info5
  have hb2 : Below base W (W.alloc (.cells #[.int .u8 (c.toNat : Int)] 5)) := (Below.refl _ _).alloc hbase _
  have hnew := heap_alloc_new W (.cells #[.int .u8 (c.toNat : Int)] 5)
  have hsz := hb2.size
  have hown' := hown.alloc (.cells #[.int .u8 (c.toNat : Int)] 5)
  generalize (W.alloc (.cells #[.int .u8 (c.toNat : Int)] 5)) = V at *
  refine wpList_append_own _ hgd s x 63 ho base 5 i0 (.int .u8 0) 1 1 Tryz.underlying63 hi0 hz0 hz1 hz2 rfl (by omega) v d.length (bytesV d) hs hown' ⟨W.heap.size, 0, none⟩ 1 1 [.int .u8 (c.toNat : Int)] hx rfl (fun j u hu => by
    match j, hu with
    | 0, hu => simp at hu; subst hu; simpa [Addr.add] using cell_of_one hnew) (by simp [Value.oneCell']) (by unfold maxLen; omega) (by omega) (by omega) ?_
  intro v' w' hown2 hgrow _
  obtain ⟨ao, cp, rfl⟩ := own_shape hown2
  refine h ao cp w' ?_ (hb2.grown hgrow (by omega) (fun k hk => (hown'.lt k hk).1))
  rw [bytesV_append, List.length_append]
  exact hown2
set_option maxRecDepth 20000 in
set_option maxHeartbeats 8000000 in
theorem unpackOf_any (w : World) (s : List UInt8) (most : Int) (hs : s.length ≤ 140737488355328) (h0 : -9223372036854775808 ≤ most) (h1 : most ≤ 9223372036854775807) :
    Calls Tryz.prog 31 #[.string (bs s), .int .i64 most] w fun e w' => e = .returned (.tuple #[.string (bs (unpackB s most).2), .int .i64 (unpackB s most).1]) ∧ Below w.heap.size w w' := by
  have hBox : Below w.heap.size w (w.alloc (.cells #[.string (bs s)] 9)) := (Below.refl _ _).alloc (Nat.le_refl _) _
  go_enter Tryz.func31, Tryz.ntmps31
  by_cases c1 : most < 0
  · have HE : Hid (unpackB s most = (3, [])) := by show _ = _; unfold unpackB; rw [if_pos (.inl c1)]
    go_wp2
    go_ret2
    exact ⟨by rw [HE.out]; rfl, hBox⟩
  · by_cases c2 : 20000 < most
    · have HE : Hid (unpackB s most = (3, [])) := by show _ = _; unfold unpackB; rw [if_pos (.inr c2)]
      go_wp2
      go_ret2
      exact ⟨by rw [HE.out]; rfl, hBox⟩
    · have HU : Hid (unpackB s most = match cutNum s with | none => (1, []) | some (n, r) => if most < n then (2, []) else match unpB n r [] with | none => (1, []) | some m => (0, m)) := by
        show _ = _; unfold unpackB; rw [if_neg (by omega)]; rfl
      go_wp2_with fail
      refine (numberAt_any s _ (by omega)).mono ?_
      rintro e w1 ⟨rfl, rfl⟩
      rcases numAt_cases s with ⟨n, size, hn, k1, k2, k3, hc⟩ | ⟨e, he, hn, hc⟩
      · rw [hn]
        have HC := hide hc
        clear hc hn
        have hwm : IntKind.u64.wrap most = most := wrap_u64_small _ (by omega) (by omega)
        by_cases c3 : most < n
        · have HE : Hid (unpackB s most = (2, [])) := by show _ = _; rw [HU.out, HC.out]; simp only; rw [if_pos c3]
          go_wp2
          go_ret2
          exact ⟨by rw [HE.out]; rfl, hBox.alloc hBox.size _⟩
        · have hwn : IntKind.i64.wrap (n : Int) = n := wrap_i64_small _ (by omega) (by omega)
          have hE : Hid (unpackB s most = match unpB n (s.drop size) [] with | none => (1, []) | some m => (0, m)) := by show _ = _; rw [HU.out, HC.out]; simp only; rw [if_neg c3]
          have hn2 : n ≤ 20000 := by omega
          have hsb0 : ((w.alloc (.cells #[.string (bs s)] 9)).alloc (.cells #[.int .i64 size] 3)).heap[w.heap.size]? = some (.cells #[.string (bs s)] 9 (0, 0)) := by
            rw [Below.heap_alloc _ _ _ (by simp)]; exact heap_alloc_new _ _
          have hat0 : ((w.alloc (.cells #[.string (bs s)] 9)).alloc (.cells #[.int .i64 size] 3)).heap[w.heap.size + 1]? = some (.cells #[.int .i64 size] 3 (0, 0)) := by
            have := heap_alloc_new (w.alloc (.cells #[.string (bs s)] 9)) (.cells #[.int .i64 size] 3); simpa using this
          have HB0 := hide (hBox.alloc hBox.size (.cells #[.int .i64 size] 3))
          have hmf : ∀ (fn : Fn) (first cap : Array Value) (w : World), (Instr.makeFunc fn first cap).run Tryz.prog w = .ok (.func fn first cap) w := fun _ _ _ _ => rfl
          go_wp2
          go_loopw [10] (fun out wr => ∃ (p : Nat) (made : List UInt8), p ≤ s.length ∧ made.length ≤ n ∧ wr.heap[w.heap.size]? = some (.cells #[.string (bs s)] 9 (0, 0)) ∧ wr.heap[w.heap.size + 1]? = some (.cells #[.int .i64 p] 3 (0, 0)) ∧ wr.ownsRow (w.heap.size + 2) 5 1 out made.length (bytesV made) ∧ Below w.heap.size w wr ∧ w.heap.size + 2 ≤ wr.heap.size ∧ Hid (unpB n (s.drop size) [] = unpB n (s.drop p) made)) (fun _ wr => s.length - atOf wr (w.heap.size + 1))
          case atStart => exact ⟨size, [], k2, by simp, hsb0, hat0, World.ownsRow_nil _ _ _ _, HB0.out, by simp, hide rfl⟩
          case round =>
            obtain ⟨p, made, hp, hm, hsb, hat, ho, hbel, hsz, HR⟩ := hrel
            rename World => wr
            obtain ⟨ao, cp, rfl⟩ := own_shape ho
            clear hsb0 hat0
            have d0 := cell_of_one hsb
            have a0 := cell_of_one hat
            have az := free_of_one hat
            by_cases hlt : p < s.length
            · have hlt' : (p : Int) < s.length := by omega
              have HNe : Hid (s.drop p ≠ []) := fun e => by have := congrArg List.length e; rw [List.length_drop] at this; simp at this; omega
              have HOne := hide (cutLow_one p s hlt)
              have h256 := s[p].toNat_lt
              obtain ⟨h, HH⟩ : ∃ h, Hid (s[p].toNat = h) := ⟨_, hide rfl⟩
              have hcl : (s[p].toNat : Int) = h := by rw [HH.out]
              rw [HH.out] at HOne h256
              have HBad : Hid (elemB n (s.drop p) made = none → unpackB s most = (1, [])) := fun h => by rw [hE.out, HR.out, unpB_none HNe.out h]
              have HGo : Hid (∀ r' m', elemB n (s.drop p) made = some (r', m') → unpB n (s.drop size) [] = unpB n r' m') := fun r' m' h => by rw [HR.out, unpB_some HNe.out h]
              obtain ⟨W, HWW⟩ : ∃ W, Hid (W = wr.setCell ⟨w.heap.size + 1, 0, none⟩ (.int .i64 ((p : Int) + 1))) := ⟨_, hide rfl⟩
              have hatW : W.heap[w.heap.size + 1]? = some (.cells #[.int .i64 ((p : Int) + 1)] 3 (0, 0)) := by rw [HWW.out]; exact set_block hat _
              have hsbW : W.heap[w.heap.size]? = some (.cells #[.string (bs s)] 9 (0, 0)) := by rw [HWW.out, Below.heap_setCell _ _ _ _ (by simp)]; exact hsb
              have hoW : W.ownsRow (w.heap.size + 2) 5 1 (.slice ao made.length cp) made.length (bytesV made) := by rw [HWW.out]; exact ownsRow_setCell_other (a := ⟨w.heap.size + 1, 0, none⟩) ho (own_apart ho hat (by decide)) _
              have hbW : Below w.heap.size w W := by rw [HWW.out]; exact hbel.setCell (p := ⟨w.heap.size + 1, 0, none⟩) (by simp) _
              have hsW : w.heap.size + 2 ≤ W.heap.size := by rw [HWW.out]; simpa [World.setCell] using hsz
              have dW := cell_of_one hsbW
              have aW := cell_of_one hatW
              have azW := free_of_one hatW
              rw [HWW.out] at dW aW azW
              clear ho
              by_cases m0 : h % 4 = 0
              · have t0 : ((h : Int) % 4 == 0) = true := by rw [beq_iff_eq]; omega
                by_cases m6 : 60 ≤ h / 4
                · as_aux_lemma =>
                  have m6' : 60 ≤ (h : Int) / 4 := by omega
                  have hsW2 : p + 1 ≤ s.length := by omega
                  go_wp2_with fail
                  rw [← HWW.out]
                  by_cases kz : p + 1 + (h / 4 - 59) ≤ s.length
                  · refine (little_some_i W (w.heap.size + 1) w.heap.size (p + 1) ((h / 4 - 59)) _ _ s hatW hsbW hs (by omega) (by omega) (by omega) kz).mono ?_
                    rintro e V ⟨rfl, hVe⟩
                    obtain ⟨P, hP⟩ : ∃ P, P = p + 1 + (h / 4 - 59) := ⟨_, rfl⟩
                    have hcut := cutLow_at ((h / 4 - 59)) (p + 1) s kz
                    rw [← hP] at hcut
                    have hlow := (cutLow_some hcut).2.2.2.1
                    have hlow2 : 256 ^ ((h / 4 - 59)) ≤ 256 ^ 4 := Nat.pow_le_pow_right (by omega) (by omega)
                    obtain ⟨m, Hm⟩ : ∃ m, Hid (lowB ((s.drop (p + 1)).take ((h / 4 - 59))) = m) := ⟨_, hide rfl⟩
                    rw [Hm.out] at hcut hlow ⊢
                    have HCut := hide hcut
                    have hm4 : m < 4294967296 := by omega
                    have hatV : V.heap[w.heap.size + 1]? = some (.cells #[.int .i64 (P : Int)] 3 (0, 0)) := by rw [hVe, set_block hatW, hP]; simp
                    have hsbV : V.heap[w.heap.size]? = some (.cells #[.string (bs s)] 9 (0, 0)) := by rw [hVe, Below.heap_setCell _ _ _ _ (by simp)]; exact hsbW
                    have hoV : V.ownsRow (w.heap.size + 2) 5 1 (.slice ao made.length cp) made.length (bytesV made) := by rw [hVe]; exact ownsRow_setCell_other (a := ⟨w.heap.size + 1, 0, none⟩) hoW (own_apart hoW hatW (by decide)) _
                    have hbV : Below w.heap.size w V := by rw [hVe]; exact hbW.setCell (p := ⟨w.heap.size + 1, 0, none⟩) (by simp) _
                    have hsV : w.heap.size + 2 ≤ V.heap.size := by rw [hVe]; simpa [World.setCell] using hsW
                    have HVe := hide hVe
                    have HW9 := hide (And.intro hatW (And.intro hsbW (And.intro hoW hbW)))
                    have HPs := hide hP
                    have hPs : P ≤ s.length := by omega
                    have hPp : p < P := by omega
                    clear hP hVe hatW hsbW hoW hbW dW aW azW hcut hlow hlow2 d0 a0 az
                    have dV := cell_of_one hsbV
                    have aV := cell_of_one hatV
                    have azV := free_of_one hatV
                    have HEl : Hid (elemB n (s.drop p) made = plainB n (m + 1) (s.drop P) made) := by show _ = _; unfold elemB; rw [HOne.out]; simp only; rw [if_pos m0, if_pos m6, HCut.out]
                    have f0 : ¬ (m : Int) < 0 := by omega
                    by_cases k1 : m + 1 ≤ s.length - (P)
                    · have f1 : ¬ (s.length : Int) < (P : Int) + (m : Int) + 1 := by omega
                      by_cases k2 : m + 1 + made.length ≤ n
                      · have f2 : ¬ (n : Int) < (made.length : Int) + (m : Int) + 1 := by omega
                        have HStep := HGo.out _ _ (by rw [HEl.out, plainB, if_pos ⟨k2, by rw [List.length_drop]; exact k1⟩])
                        have HS2 := hide HStep
                        clear HStep
                        go_wp2
                        skip
                        clear dV aV azV
                        go_loopw [10, 15] (fun out i wk => ∃ q : Nat, q ≤ m + 1 ∧ i = .int .i64 q ∧ Below (w.heap.size + 2) V wk ∧ wk.ownsRow (w.heap.size + 2) 5 1 out (made ++ (s.drop (P)).take q).length (bytesV (made ++ (s.drop (P)).take q))) (fun _ i _ => m + 1 - (intOf i).toNat)
                        case atStart => exact ⟨0, by omega, rfl, Below.refl _ _, by simpa using hoV⟩
                        case round =>
                          obtain ⟨q, hq, rfl, hbk, hok⟩ := hrel
                          rename World => wk
                          have hatk := (hbk.block (w.heap.size + 1) (by omega)).trans hatV
                          have hsbk := (hbk.block w.heap.size (by omega)).trans hsbV
                          have dk := cell_of_one hsbk
                          have ak := cell_of_one hatk
                          have azk := free_of_one hatk
                          have hlq : (made ++ (s.drop (P)).take q).length = made.length + q := by rw [List.length_append, List.length_take, List.length_drop]; omega
                          by_cases hq2 : q ≤ m
                          · have hq3 : (q : Int) ≤ (m : Int) := by omega
                            have hidx : P + q < s.length := by omega
                            have HTk : Hid (made ++ (s.drop (P)).take (q + 1) = made ++ (s.drop (P)).take q ++ [s[P + q]]) := by
                              show _ = _
                              rw [List.append_assoc, List.take_succ_eq_append_getElem (by rw [List.length_drop]; omega), List.getElem_drop]
                            obtain ⟨M, HM⟩ : ∃ M, Hid (made ++ (s.drop (P)).take q = M) := ⟨_, hide rfl⟩
                            rw [HM.out] at hok hlq HTk
                            obtain ⟨ao2, cp2, rfl⟩ := own_shape hok
                            have HLQ : M.length ≤ 1000000 := by omega
                            have HSz := hide hbk.size
                            have hszk : w.heap.size + 2 ≤ wk.heap.size := by have := HSz.out; omega
                            clear hlq
                            go_wp2_with (at_builtin; go_must (refine append_byte rfl (.tmp 87) (.tmp 93) rfl (w.heap.size + 2) (.slice ao2 M.length cp2) M (s[P + q]) _ (by first | rfl | (congr 2; simp; omega)) rfl hok rfl HLQ hszk ?_); intro ao3 cp3 w7 hown7 hb7)
                            go_roundw
                            case rel => exact ⟨q + 1, by omega, by go_num, hbk.trans hb7, by rw [HTk.out]; exact hown7⟩
                            case measure => simp [intOf]; omega
                          · have hq3 : ¬ (q : Int) ≤ (m : Int) := by omega
                            obtain rfl : q = m + 1 := by omega
                            go_wp2
                            go_roundw
                            case rel => exact ⟨P + (m + 1), _, by omega, by rw [hlq]; omega, by rw [Below.heap_setCell _ _ _ _ (by simp)]; exact hsbk, by rw [set_block hatk]; simp <;> omega, ownsRow_setCell_other (a := ⟨w.heap.size + 1, 0, none⟩) hok (own_apart hok hatk (by decide)) _, (hbV.trans (hbk.mono (by omega))).setCell (p := ⟨w.heap.size + 1, 0, none⟩) (by simp) _, by have := hbk.size; simp [World.setCell]; omega, by show _ = _; rw [HS2.out]; simp only [List.drop_drop]⟩
                            case measure =>
                              have := HPs.out
                              simp only [atOf, hat, set_block hatk]
                              simp [intOf]
                              omega
                      · have f2 : (n : Int) < (made.length : Int) + (m : Int) + 1 := by omega
                        have HE := hide (HBad.out (by rw [HEl.out, plainB, if_neg (fun h => k2 h.1)]))
                        go_wp2
                        go_ret2
                        exact ⟨by rw [HE.out]; rfl, hbV⟩
                    · have f1 : (s.length : Int) < (P : Int) + (m : Int) + 1 := by omega
                      have HE := hide (HBad.out (by rw [HEl.out, plainB, if_neg (fun h => k1 (by have := h.2; rw [List.length_drop] at this; exact this))]))
                      go_wp2
                      go_ret2
                      exact ⟨by rw [HE.out]; rfl, hbV⟩
                  · refine (little_none_i W (w.heap.size + 1) w.heap.size (p + 1) ((h / 4 - 59)) _ _ s hatW hsbW hs (by omega) (by omega) (by omega) (by omega) (by omega)).mono ?_
                    rintro e V ⟨rfl, rfl⟩
                    have hcut := cutLow_out ((h / 4 - 59)) (p + 1) s (by omega) (by omega)
                    have HE := hide (HBad.out (by unfold elemB; rw [HOne.out]; simp only; rw [if_pos m0, if_pos m6, hcut]))
                    rw [← HWW.out] at dW aW azW
                    clear hcut
                    go_wp2
                    go_ret2
                    exact ⟨by rw [HE.out]; rfl, hbW⟩
                · as_aux_lemma =>
                  have m6' : ¬ 60 ≤ (h : Int) / 4 := by omega
                  have HEl : Hid (elemB n (s.drop p) made = plainB n (h / 4 + 1) (s.drop (p + 1)) made) := by show _ = _; unfold elemB; rw [HOne.out]; simp only; rw [if_pos m0, if_neg m6]
                  have f0 : ¬ (h : Int) / 4 < 0 := by omega
                  by_cases k1 : h / 4 + 1 ≤ s.length - (p + 1)
                  · have f1 : ¬ (s.length : Int) < ((p : Int) + 1) + (h : Int) / 4 + 1 := by omega
                    by_cases k2 : h / 4 + 1 + made.length ≤ n
                    · have f2 : ¬ (n : Int) < (made.length : Int) + (h : Int) / 4 + 1 := by omega
                      have HStep := HGo.out _ _ (by rw [HEl.out, plainB, if_pos ⟨k2, by rw [List.length_drop]; exact k1⟩])
                      have HS2 := hide HStep
                      clear HStep
                      go_wp2
                      rw [← HWW.out]
                      clear d0 a0 az dW aW azW
                      go_loopw [10, 15] (fun out i wk => ∃ q : Nat, q ≤ h / 4 + 1 ∧ i = .int .i64 q ∧ Below (w.heap.size + 2) W wk ∧ wk.ownsRow (w.heap.size + 2) 5 1 out (made ++ (s.drop (p + 1)).take q).length (bytesV (made ++ (s.drop (p + 1)).take q))) (fun _ i _ => h / 4 + 1 - (intOf i).toNat)
                      case atStart => exact ⟨0, by omega, rfl, Below.refl _ _, by simpa using hoW⟩
                      case round =>
                        obtain ⟨q, hq, rfl, hbk, hok⟩ := hrel
                        rename World => wk
                        have hatk := (hbk.block (w.heap.size + 1) (by omega)).trans hatW
                        have hsbk := (hbk.block w.heap.size (by omega)).trans hsbW
                        have dk := cell_of_one hsbk
                        have ak := cell_of_one hatk
                        have azk := free_of_one hatk
                        have hlq : (made ++ (s.drop (p + 1)).take q).length = made.length + q := by rw [List.length_append, List.length_take, List.length_drop]; omega
                        by_cases hq2 : q ≤ h / 4
                        · have hq3 : (q : Int) ≤ (h : Int) / 4 := by omega
                          have hidx : p + 1 + q < s.length := by omega
                          have HTk : Hid (made ++ (s.drop (p + 1)).take (q + 1) = made ++ (s.drop (p + 1)).take q ++ [s[p + 1 + q]]) := by
                            show _ = _
                            rw [List.append_assoc, List.take_succ_eq_append_getElem (by rw [List.length_drop]; omega), List.getElem_drop]
                          obtain ⟨M, HM⟩ : ∃ M, Hid (made ++ (s.drop (p + 1)).take q = M) := ⟨_, hide rfl⟩
                          rw [HM.out] at hok hlq HTk
                          obtain ⟨ao2, cp2, rfl⟩ := own_shape hok
                          have HLQ : M.length ≤ 1000000 := by omega
                          have HSz := hide hbk.size
                          have hszk : w.heap.size + 2 ≤ wk.heap.size := by have := HSz.out; omega
                          clear hlq
                          go_wp2_with (at_builtin; go_must (refine append_byte rfl (.tmp 87) (.tmp 93) rfl (w.heap.size + 2) (.slice ao2 M.length cp2) M (s[p + 1 + q]) _ (by first | rfl | (congr 2; simp; omega)) rfl hok rfl HLQ hszk ?_); intro ao3 cp3 w7 hown7 hb7)
                          go_roundw
                          case rel => exact ⟨q + 1, by omega, by go_num, hbk.trans hb7, by rw [HTk.out]; exact hown7⟩
                          case measure => simp [intOf]; omega
                        · have hq3 : ¬ (q : Int) ≤ (h : Int) / 4 := by omega
                          obtain rfl : q = h / 4 + 1 := by omega
                          go_wp2
                          go_roundw
                          case rel => exact ⟨p + 1 + (h / 4 + 1), _, by omega, by rw [hlq]; omega, by rw [Below.heap_setCell _ _ _ _ (by simp)]; exact hsbk, by rw [set_block hatk]; simp <;> omega, ownsRow_setCell_other (a := ⟨w.heap.size + 1, 0, none⟩) hok (own_apart hok hatk (by decide)) _, (hbW.trans (hbk.mono (by omega))).setCell (p := ⟨w.heap.size + 1, 0, none⟩) (by simp) _, by have := hbk.size; simp [World.setCell]; omega, by show _ = _; rw [HS2.out]; simp only [List.drop_drop]⟩
                          case measure =>
                            simp only [atOf, hat, set_block hatk]
                            simp [intOf]
                            omega
                    · have f2 : (n : Int) < (made.length : Int) + (h : Int) / 4 + 1 := by omega
                      have HE := hide (HBad.out (by rw [HEl.out, plainB, if_neg (fun h => k2 h.1)]))
                      go_wp2
                      go_ret2
                      exact ⟨by rw [HE.out]; rfl, by rw [← HWW.out]; exact hbW⟩
                  · have f1 : (s.length : Int) < ((p : Int) + 1) + (h : Int) / 4 + 1 := by omega
                    have HE := hide (HBad.out (by rw [HEl.out, plainB, if_neg (fun h => k1 (by have := h.2; rw [List.length_drop] at this; exact this))]))
                    go_wp2
                    go_ret2
                    exact ⟨by rw [HE.out]; rfl, by rw [← HWW.out]; exact hbW⟩
              · have t0 : ((h : Int) % 4 == 0) = false := by rw [beq_eq_false_iff_ne]; omega
                by_cases m1 : h % 4 = 1
                · as_aux_lemma =>
                  have t1 : ((h : Int) % 4 == 1) = true := by rw [beq_iff_eq]; omega
                  have hsW2 : p + 1 ≤ s.length := by omega
                  go_wp2_with fail
                  rw [← HWW.out]
                  by_cases kz : p + 1 + 1 ≤ s.length
                  · refine (little_some_i W (w.heap.size + 1) w.heap.size (p + 1) (1) _ _ s hatW hsbW hs (by omega) (by omega) (by omega) kz).mono ?_
                    rintro e V ⟨rfl, hVe⟩
                    obtain ⟨P, hP⟩ : ∃ P, P = p + 1 + 1 := ⟨_, rfl⟩
                    have hcut := cutLow_at (1) (p + 1) s kz
                    rw [← hP] at hcut
                    have hlow := (cutLow_some hcut).2.2.2.1
                    have hlow2 : 256 ^ (1) ≤ 256 ^ 4 := Nat.pow_le_pow_right (by omega) (by omega)
                    obtain ⟨m, Hm⟩ : ∃ m, Hid (lowB ((s.drop (p + 1)).take (1)) = m) := ⟨_, hide rfl⟩
                    rw [Hm.out] at hcut hlow ⊢
                    have HCut := hide hcut
                    have hm4 : m < 4294967296 := by omega
                    have hatV : V.heap[w.heap.size + 1]? = some (.cells #[.int .i64 (P : Int)] 3 (0, 0)) := by rw [hVe, set_block hatW, hP]; simp
                    have hsbV : V.heap[w.heap.size]? = some (.cells #[.string (bs s)] 9 (0, 0)) := by rw [hVe, Below.heap_setCell _ _ _ _ (by simp)]; exact hsbW
                    have hoV : V.ownsRow (w.heap.size + 2) 5 1 (.slice ao made.length cp) made.length (bytesV made) := by rw [hVe]; exact ownsRow_setCell_other (a := ⟨w.heap.size + 1, 0, none⟩) hoW (own_apart hoW hatW (by decide)) _
                    have hbV : Below w.heap.size w V := by rw [hVe]; exact hbW.setCell (p := ⟨w.heap.size + 1, 0, none⟩) (by simp) _
                    have hsV : w.heap.size + 2 ≤ V.heap.size := by rw [hVe]; simpa [World.setCell] using hsW
                    have HVe := hide hVe
                    have HW9 := hide (And.intro hatW (And.intro hsbW (And.intro hoW hbW)))
                    have HPs := hide hP
                    have hPs : P ≤ s.length := by omega
                    have hPp : p < P := by omega
                    clear hP hVe hatW hsbW hoW hbW dW aW azW hcut hlow hlow2 d0 a0 az
                    have dV := cell_of_one hsbV
                    have aV := cell_of_one hatV
                    have azV := free_of_one hatV
                    have HEl : Hid (elemB n (s.drop p) made = againB n (h / 4 % 8 + 4) (h / 32 * 256 + m) (s.drop P) made) := by show _ = _; unfold elemB; rw [HOne.out]; simp only; rw [if_neg m0, if_pos m1, HCut.out]
                    have m00 : 0 ≤ (m : Int) := by omega
                    by_cases g1 : 1 ≤ (h / 32 * 256 + m)
                    · have g1' : ¬ ((m : Int) + (h : Int) / 4 / 8 * 256) < 1 := by omega
                      by_cases g2 : (h / 32 * 256 + m) ≤ made.length
                      · have g2' : ¬ (made.length : Int) < ((m : Int) + (h : Int) / 4 / 8 * 256) := by omega
                        have g2n : ¬ made.length < (h / 32 * 256 + m) := by omega
                        by_cases g3 : (h / 4 % 8 + 4) + made.length ≤ n
                        · have g3' : ¬ (n : Int) < (made.length : Int) + ((h : Int) / 4 % 8 + 4) := by omega
                          have HStep := HGo.out _ _ (by rw [HEl.out, againB, if_pos ⟨g3, g1, g2⟩])
                          have HS2 := hide HStep
                          clear HStep
                          go_wp2
                          clear dV aV azV
                          go_loopw [10, 18] (fun out i wk => ∃ q : Nat, q ≤ (h / 4 % 8 + 4) ∧ i = .int .i64 q ∧ Below (w.heap.size + 2) V wk ∧ wk.ownsRow (w.heap.size + 2) 5 1 out (copyB ((h / 32 * 256 + m)) q made).length (bytesV (copyB ((h / 32 * 256 + m)) q made))) (fun _ i _ => (h / 4 % 8 + 4) - (intOf i).toNat)
                          case atStart => exact ⟨0, by omega, rfl, Below.refl _ _, hoV⟩
                          case round =>
                            obtain ⟨q, hq, rfl, hbk, hok⟩ := hrel
                            rename World => wk
                            have hatk := (hbk.block (w.heap.size + 1) (by omega)).trans hatV
                            have hsbk := (hbk.block w.heap.size (by omega)).trans hsbV
                            have dk := cell_of_one hsbk
                            have ak := cell_of_one hatk
                            have azk := free_of_one hatk
                            have hml := copyB_length ((h / 32 * 256 + m)) q made
                            by_cases hq2 : q < (h / 4 % 8 + 4)
                            · have hq3 : (q : Int) < ((h : Int) / 4 % 8 + 4) := by omega
                              have HSn : Hid (copyB ((h / 32 * 256 + m)) (q + 1) made = copyB ((h / 32 * 256 + m)) q made ++ [(copyB ((h / 32 * 256 + m)) q made).getD ((copyB ((h / 32 * 256 + m)) q made).length - ((h / 32 * 256 + m))) 0]) := copyB_snoc ((h / 32 * 256 + m)) q made
                              obtain ⟨M, HM⟩ : ∃ M, Hid (copyB ((h / 32 * 256 + m)) q made = M) := ⟨_, hide rfl⟩
                              rw [HM.out] at hml hok HSn
                              obtain ⟨ao2, cp2, rfl⟩ := own_shape hok
                              obtain ⟨x, hx⟩ : ∃ x, x = M.length - ((h / 32 * 256 + m)) := ⟨_, rfl⟩
                              have hxl : x < M.length := by omega
                              have hxi : (M.length : Int) - ((m : Int) + (h : Int) / 4 / 8 * 256) = (x : Int) := by omega
                              have HC : Hid (M.getD (M.length - ((h / 32 * 256 + m))) 0 = M[x]) := by show _ = _; rw [← hx]; exact getD_get M x hxl
                              obtain ⟨gm, rfl⟩ : ∃ gm, ao2 = some ⟨gm, 0, none⟩ := by
                                rcases hok.2 with ⟨_, h0⟩ | ⟨g, cap, cur, e, _⟩
                                · omega
                                · simp at e; exact ⟨g, e.1⟩
                              have hcell := World.ownsRow.cells hok (g := gm) rfl x (.int .u8 (M[x].toNat : Int)) (by simp [bytesV, hxl])
                              rw [Addr.add_lit] at hcell
                              simp only [Nat.zero_add] at hcell
                              have HLQ : M.length ≤ 1000000 := by omega
                              have hszk : w.heap.size + 2 ≤ wk.heap.size := by have := hbk.size; omega
                              have HMl := hide hml
                              have HX := hide hx
                              clear hml hx
                              go_wp2_with (at_builtin; go_must (refine append_byte rfl (.tmp 146) (.tmp 154) rfl (w.heap.size + 2) (.slice (some ⟨gm, 0, none⟩) M.length cp2) M M[x] _ rfl rfl hok rfl HLQ hszk ?_); intro ao3 cp3 w7 hown7 hb7)
                              go_roundw
                              case rel => exact ⟨q + 1, by omega, by go_num, hbk.trans hb7, by rw [HSn.out, HC.out]; exact hown7⟩
                              case measure => simp [intOf]; omega
                            · have hq3 : ¬ (q : Int) < ((h : Int) / 4 % 8 + 4) := by omega
                              obtain rfl : q = (h / 4 % 8 + 4) := by omega
                              go_wp2
                              go_roundw
                              case rel => exact ⟨P, _, hPs, by rw [hml]; omega, hsbk, hatk, hok, hbV.trans (hbk.mono (by omega)), by have := hbk.size; omega, by show _ = _; rw [HS2.out]⟩
                              case measure =>
                                simp only [atOf, hat, hatk]
                                simp [intOf]
                                omega
                        · have g3' : (n : Int) < (made.length : Int) + ((h : Int) / 4 % 8 + 4) := by omega
                          have HE := hide (HBad.out (by rw [HEl.out, againB, if_neg (fun h => g3 h.1)]))
                          go_wp2
                          go_ret2
                          exact ⟨by rw [HE.out]; rfl, hbV⟩
                      · have g2' : (made.length : Int) < ((m : Int) + (h : Int) / 4 / 8 * 256) := by omega
                        have HE := hide (HBad.out (by rw [HEl.out, againB, if_neg (fun h => g2 h.2.2)]))
                        go_wp2
                        go_ret2
                        exact ⟨by rw [HE.out]; rfl, hbV⟩
                    · have g1' : ((m : Int) + (h : Int) / 4 / 8 * 256) < 1 := by omega
                      have HE := hide (HBad.out (by rw [HEl.out, againB, if_neg (fun h => g1 h.2.1)]))
                      go_wp2
                      go_ret2
                      exact ⟨by rw [HE.out]; rfl, hbV⟩
                  · refine (little_none_i W (w.heap.size + 1) w.heap.size (p + 1) (1) _ _ s hatW hsbW hs (by omega) (by omega) (by omega) (by omega) (by omega)).mono ?_
                    rintro e V ⟨rfl, rfl⟩
                    have hcut := cutLow_out (1) (p + 1) s (by omega) (by omega)
                    have HE := hide (HBad.out (by unfold elemB; rw [HOne.out]; simp only; rw [if_neg m0, if_pos m1, hcut]))
                    rw [← HWW.out] at dW aW azW
                    clear hcut
                    go_wp2
                    go_ret2
                    exact ⟨by rw [HE.out]; rfl, hbW⟩
                · by_cases m2 : h % 4 = 2
                  · as_aux_lemma =>
                    have t1 : ((h : Int) % 4 == 1) = false := by rw [beq_eq_false_iff_ne]; omega
                    have t2 : ((h : Int) % 4 == 2) = true := by rw [beq_iff_eq]; omega
                    have hsW2 : p + 1 ≤ s.length := by omega
                    go_wp2_with fail
                    rw [← HWW.out]
                    by_cases kz : p + 1 + 2 ≤ s.length
                    · refine (little_some_i W (w.heap.size + 1) w.heap.size (p + 1) (2) _ _ s hatW hsbW hs (by omega) (by omega) (by omega) kz).mono ?_
                      rintro e V ⟨rfl, hVe⟩
                      obtain ⟨P, hP⟩ : ∃ P, P = p + 1 + 2 := ⟨_, rfl⟩
                      have hcut := cutLow_at (2) (p + 1) s kz
                      rw [← hP] at hcut
                      have hlow := (cutLow_some hcut).2.2.2.1
                      have hlow2 : 256 ^ (2) ≤ 256 ^ 4 := Nat.pow_le_pow_right (by omega) (by omega)
                      obtain ⟨m, Hm⟩ : ∃ m, Hid (lowB ((s.drop (p + 1)).take (2)) = m) := ⟨_, hide rfl⟩
                      rw [Hm.out] at hcut hlow ⊢
                      have HCut := hide hcut
                      have hm4 : m < 4294967296 := by omega
                      have hatV : V.heap[w.heap.size + 1]? = some (.cells #[.int .i64 (P : Int)] 3 (0, 0)) := by rw [hVe, set_block hatW, hP]; simp
                      have hsbV : V.heap[w.heap.size]? = some (.cells #[.string (bs s)] 9 (0, 0)) := by rw [hVe, Below.heap_setCell _ _ _ _ (by simp)]; exact hsbW
                      have hoV : V.ownsRow (w.heap.size + 2) 5 1 (.slice ao made.length cp) made.length (bytesV made) := by rw [hVe]; exact ownsRow_setCell_other (a := ⟨w.heap.size + 1, 0, none⟩) hoW (own_apart hoW hatW (by decide)) _
                      have hbV : Below w.heap.size w V := by rw [hVe]; exact hbW.setCell (p := ⟨w.heap.size + 1, 0, none⟩) (by simp) _
                      have hsV : w.heap.size + 2 ≤ V.heap.size := by rw [hVe]; simpa [World.setCell] using hsW
                      have HVe := hide hVe
                      have HW9 := hide (And.intro hatW (And.intro hsbW (And.intro hoW hbW)))
                      have HPs := hide hP
                      have hPs : P ≤ s.length := by omega
                      have hPp : p < P := by omega
                      clear hP hVe hatW hsbW hoW hbW dW aW azW hcut hlow hlow2 d0 a0 az
                      have dV := cell_of_one hsbV
                      have aV := cell_of_one hatV
                      have azV := free_of_one hatV
                      have HEl : Hid (elemB n (s.drop p) made = againB n (h / 4 + 1) (m) (s.drop P) made) := by show _ = _; unfold elemB; rw [HOne.out]; simp only; rw [if_neg m0, if_neg m1, if_pos m2, HCut.out]
                      by_cases g1 : 1 ≤ (m)
                      · have g1' : ¬ (m : Int) < 1 := by omega
                        by_cases g2 : (m) ≤ made.length
                        · have g2' : ¬ (made.length : Int) < (m : Int) := by omega
                          have g2n : ¬ made.length < (m) := by omega
                          by_cases g3 : (h / 4 + 1) + made.length ≤ n
                          · have g3' : ¬ (n : Int) < (made.length : Int) + ((h : Int) / 4 + 1) := by omega
                            have HStep := HGo.out _ _ (by rw [HEl.out, againB, if_pos ⟨g3, g1, g2⟩])
                            have HS2 := hide HStep
                            clear HStep
                            go_wp2
                            clear dV aV azV
                            go_loopw [10, 18] (fun out i wk => ∃ q : Nat, q ≤ (h / 4 + 1) ∧ i = .int .i64 q ∧ Below (w.heap.size + 2) V wk ∧ wk.ownsRow (w.heap.size + 2) 5 1 out (copyB ((m)) q made).length (bytesV (copyB ((m)) q made))) (fun _ i _ => (h / 4 + 1) - (intOf i).toNat)
                            case atStart => exact ⟨0, by omega, rfl, Below.refl _ _, hoV⟩
                            case round =>
                              obtain ⟨q, hq, rfl, hbk, hok⟩ := hrel
                              rename World => wk
                              have hatk := (hbk.block (w.heap.size + 1) (by omega)).trans hatV
                              have hsbk := (hbk.block w.heap.size (by omega)).trans hsbV
                              have dk := cell_of_one hsbk
                              have ak := cell_of_one hatk
                              have azk := free_of_one hatk
                              have hml := copyB_length ((m)) q made
                              by_cases hq2 : q < (h / 4 + 1)
                              · have hq3 : (q : Int) < ((h : Int) / 4 + 1) := by omega
                                have HSn : Hid (copyB ((m)) (q + 1) made = copyB ((m)) q made ++ [(copyB ((m)) q made).getD ((copyB ((m)) q made).length - ((m))) 0]) := copyB_snoc ((m)) q made
                                obtain ⟨M, HM⟩ : ∃ M, Hid (copyB ((m)) q made = M) := ⟨_, hide rfl⟩
                                rw [HM.out] at hml hok HSn
                                obtain ⟨ao2, cp2, rfl⟩ := own_shape hok
                                obtain ⟨x, hx⟩ : ∃ x, x = M.length - ((m)) := ⟨_, rfl⟩
                                have hxl : x < M.length := by omega
                                have hxi : (M.length : Int) - (m : Int) = (x : Int) := by omega
                                have HC : Hid (M.getD (M.length - ((m))) 0 = M[x]) := by show _ = _; rw [← hx]; exact getD_get M x hxl
                                obtain ⟨gm, rfl⟩ : ∃ gm, ao2 = some ⟨gm, 0, none⟩ := by
                                  rcases hok.2 with ⟨_, h0⟩ | ⟨g, cap, cur, e, _⟩
                                  · omega
                                  · simp at e; exact ⟨g, e.1⟩
                                have hcell := World.ownsRow.cells hok (g := gm) rfl x (.int .u8 (M[x].toNat : Int)) (by simp [bytesV, hxl])
                                rw [Addr.add_lit] at hcell
                                simp only [Nat.zero_add] at hcell
                                have HLQ : M.length ≤ 1000000 := by omega
                                have hszk : w.heap.size + 2 ≤ wk.heap.size := by have := hbk.size; omega
                                have HMl := hide hml
                                have HX := hide hx
                                clear hml hx
                                go_wp2_with (at_builtin; go_must (refine append_byte rfl (.tmp 146) (.tmp 154) rfl (w.heap.size + 2) (.slice (some ⟨gm, 0, none⟩) M.length cp2) M M[x] _ rfl rfl hok rfl HLQ hszk ?_); intro ao3 cp3 w7 hown7 hb7)
                                go_roundw
                                case rel => exact ⟨q + 1, by omega, by go_num, hbk.trans hb7, by rw [HSn.out, HC.out]; exact hown7⟩
                                case measure => simp [intOf]; omega
                              · have hq3 : ¬ (q : Int) < ((h : Int) / 4 + 1) := by omega
                                obtain rfl : q = (h / 4 + 1) := by omega
                                go_wp2
                                go_roundw
                                case rel => exact ⟨P, _, hPs, by rw [hml]; omega, hsbk, hatk, hok, hbV.trans (hbk.mono (by omega)), by have := hbk.size; omega, by show _ = _; rw [HS2.out]⟩
                                case measure =>
                                  simp only [atOf, hat, hatk]
                                  simp [intOf]
                                  omega
                          · have g3' : (n : Int) < (made.length : Int) + ((h : Int) / 4 + 1) := by omega
                            have HE := hide (HBad.out (by rw [HEl.out, againB, if_neg (fun h => g3 h.1)]))
                            go_wp2
                            go_ret2
                            exact ⟨by rw [HE.out]; rfl, hbV⟩
                        · have g2' : (made.length : Int) < (m : Int) := by omega
                          have HE := hide (HBad.out (by rw [HEl.out, againB, if_neg (fun h => g2 h.2.2)]))
                          go_wp2
                          go_ret2
                          exact ⟨by rw [HE.out]; rfl, hbV⟩
                      · have g1' : (m : Int) < 1 := by omega
                        have HE := hide (HBad.out (by rw [HEl.out, againB, if_neg (fun h => g1 h.2.1)]))
                        go_wp2
                        go_ret2
                        exact ⟨by rw [HE.out]; rfl, hbV⟩
                    · refine (little_none_i W (w.heap.size + 1) w.heap.size (p + 1) (2) _ _ s hatW hsbW hs (by omega) (by omega) (by omega) (by omega) (by omega)).mono ?_
                      rintro e V ⟨rfl, rfl⟩
                      have hcut := cutLow_out (2) (p + 1) s (by omega) (by omega)
                      have HE := hide (HBad.out (by unfold elemB; rw [HOne.out]; simp only; rw [if_neg m0, if_neg m1, if_pos m2, hcut]))
                      rw [← HWW.out] at dW aW azW
                      clear hcut
                      go_wp2
                      go_ret2
                      exact ⟨by rw [HE.out]; rfl, hbW⟩
                  · as_aux_lemma =>
                    have t1 : ((h : Int) % 4 == 1) = false := by rw [beq_eq_false_iff_ne]; omega
                    have t2 : ((h : Int) % 4 == 2) = false := by rw [beq_eq_false_iff_ne]; omega
                    have t3 : ((h : Int) % 4 == 3) = true := by rw [beq_iff_eq]; omega
                    have hsW2 : p + 1 ≤ s.length := by omega
                    go_wp2_with fail
                    rw [← HWW.out]
                    by_cases kz : p + 1 + 4 ≤ s.length
                    · refine (little_some_i W (w.heap.size + 1) w.heap.size (p + 1) (4) _ _ s hatW hsbW hs (by omega) (by omega) (by omega) kz).mono ?_
                      rintro e V ⟨rfl, hVe⟩
                      obtain ⟨P, hP⟩ : ∃ P, P = p + 1 + 4 := ⟨_, rfl⟩
                      have hcut := cutLow_at (4) (p + 1) s kz
                      rw [← hP] at hcut
                      have hlow := (cutLow_some hcut).2.2.2.1
                      have hlow2 : 256 ^ (4) ≤ 256 ^ 4 := Nat.pow_le_pow_right (by omega) (by omega)
                      obtain ⟨m, Hm⟩ : ∃ m, Hid (lowB ((s.drop (p + 1)).take (4)) = m) := ⟨_, hide rfl⟩
                      rw [Hm.out] at hcut hlow ⊢
                      have HCut := hide hcut
                      have hm4 : m < 4294967296 := by omega
                      have hatV : V.heap[w.heap.size + 1]? = some (.cells #[.int .i64 (P : Int)] 3 (0, 0)) := by rw [hVe, set_block hatW, hP]; simp
                      have hsbV : V.heap[w.heap.size]? = some (.cells #[.string (bs s)] 9 (0, 0)) := by rw [hVe, Below.heap_setCell _ _ _ _ (by simp)]; exact hsbW
                      have hoV : V.ownsRow (w.heap.size + 2) 5 1 (.slice ao made.length cp) made.length (bytesV made) := by rw [hVe]; exact ownsRow_setCell_other (a := ⟨w.heap.size + 1, 0, none⟩) hoW (own_apart hoW hatW (by decide)) _
                      have hbV : Below w.heap.size w V := by rw [hVe]; exact hbW.setCell (p := ⟨w.heap.size + 1, 0, none⟩) (by simp) _
                      have hsV : w.heap.size + 2 ≤ V.heap.size := by rw [hVe]; simpa [World.setCell] using hsW
                      have HVe := hide hVe
                      have HW9 := hide (And.intro hatW (And.intro hsbW (And.intro hoW hbW)))
                      have HPs := hide hP
                      have hPs : P ≤ s.length := by omega
                      have hPp : p < P := by omega
                      clear hP hVe hatW hsbW hoW hbW dW aW azW hcut hlow hlow2 d0 a0 az
                      have dV := cell_of_one hsbV
                      have aV := cell_of_one hatV
                      have azV := free_of_one hatV
                      have HEl : Hid (elemB n (s.drop p) made = againB n (h / 4 + 1) (m) (s.drop P) made) := by show _ = _; unfold elemB; rw [HOne.out]; simp only; rw [if_neg m0, if_neg m1, if_neg m2, HCut.out]
                      by_cases g1 : 1 ≤ (m)
                      · have g1' : ¬ (m : Int) < 1 := by omega
                        by_cases g2 : (m) ≤ made.length
                        · have g2' : ¬ (made.length : Int) < (m : Int) := by omega
                          have g2n : ¬ made.length < (m) := by omega
                          by_cases g3 : (h / 4 + 1) + made.length ≤ n
                          · have g3' : ¬ (n : Int) < (made.length : Int) + ((h : Int) / 4 + 1) := by omega
                            have HStep := HGo.out _ _ (by rw [HEl.out, againB, if_pos ⟨g3, g1, g2⟩])
                            have HS2 := hide HStep
                            clear HStep
                            go_wp2
                            clear dV aV azV
                            go_loopw [10, 18] (fun out i wk => ∃ q : Nat, q ≤ (h / 4 + 1) ∧ i = .int .i64 q ∧ Below (w.heap.size + 2) V wk ∧ wk.ownsRow (w.heap.size + 2) 5 1 out (copyB ((m)) q made).length (bytesV (copyB ((m)) q made))) (fun _ i _ => (h / 4 + 1) - (intOf i).toNat)
                            case atStart => exact ⟨0, by omega, rfl, Below.refl _ _, hoV⟩
                            case round =>
                              obtain ⟨q, hq, rfl, hbk, hok⟩ := hrel
                              rename World => wk
                              have hatk := (hbk.block (w.heap.size + 1) (by omega)).trans hatV
                              have hsbk := (hbk.block w.heap.size (by omega)).trans hsbV
                              have dk := cell_of_one hsbk
                              have ak := cell_of_one hatk
                              have azk := free_of_one hatk
                              have hml := copyB_length ((m)) q made
                              by_cases hq2 : q < (h / 4 + 1)
                              · have hq3 : (q : Int) < ((h : Int) / 4 + 1) := by omega
                                have HSn : Hid (copyB ((m)) (q + 1) made = copyB ((m)) q made ++ [(copyB ((m)) q made).getD ((copyB ((m)) q made).length - ((m))) 0]) := copyB_snoc ((m)) q made
                                obtain ⟨M, HM⟩ : ∃ M, Hid (copyB ((m)) q made = M) := ⟨_, hide rfl⟩
                                rw [HM.out] at hml hok HSn
                                obtain ⟨ao2, cp2, rfl⟩ := own_shape hok
                                obtain ⟨x, hx⟩ : ∃ x, x = M.length - ((m)) := ⟨_, rfl⟩
                                have hxl : x < M.length := by omega
                                have hxi : (M.length : Int) - (m : Int) = (x : Int) := by omega
                                have HC : Hid (M.getD (M.length - ((m))) 0 = M[x]) := by show _ = _; rw [← hx]; exact getD_get M x hxl
                                obtain ⟨gm, rfl⟩ : ∃ gm, ao2 = some ⟨gm, 0, none⟩ := by
                                  rcases hok.2 with ⟨_, h0⟩ | ⟨g, cap, cur, e, _⟩
                                  · omega
                                  · simp at e; exact ⟨g, e.1⟩
                                have hcell := World.ownsRow.cells hok (g := gm) rfl x (.int .u8 (M[x].toNat : Int)) (by simp [bytesV, hxl])
                                rw [Addr.add_lit] at hcell
                                simp only [Nat.zero_add] at hcell
                                have HLQ : M.length ≤ 1000000 := by omega
                                have hszk : w.heap.size + 2 ≤ wk.heap.size := by have := hbk.size; omega
                                have HMl := hide hml
                                have HX := hide hx
                                clear hml hx
                                go_wp2_with (at_builtin; go_must (refine append_byte rfl (.tmp 146) (.tmp 154) rfl (w.heap.size + 2) (.slice (some ⟨gm, 0, none⟩) M.length cp2) M M[x] _ rfl rfl hok rfl HLQ hszk ?_); intro ao3 cp3 w7 hown7 hb7)
                                go_roundw
                                case rel => exact ⟨q + 1, by omega, by go_num, hbk.trans hb7, by rw [HSn.out, HC.out]; exact hown7⟩
                                case measure => simp [intOf]; omega
                              · have hq3 : ¬ (q : Int) < ((h : Int) / 4 + 1) := by omega
                                obtain rfl : q = (h / 4 + 1) := by omega
                                go_wp2
                                go_roundw
                                case rel => exact ⟨P, _, hPs, by rw [hml]; omega, hsbk, hatk, hok, hbV.trans (hbk.mono (by omega)), by have := hbk.size; omega, by show _ = _; rw [HS2.out]⟩
                                case measure =>
                                  simp only [atOf, hat, hatk]
                                  simp [intOf]
                                  omega
                          · have g3' : (n : Int) < (made.length : Int) + ((h : Int) / 4 + 1) := by omega
                            have HE := hide (HBad.out (by rw [HEl.out, againB, if_neg (fun h => g3 h.1)]))
                            go_wp2
                            go_ret2
                            exact ⟨by rw [HE.out]; rfl, hbV⟩
                        · have g2' : (made.length : Int) < (m : Int) := by omega
                          have HE := hide (HBad.out (by rw [HEl.out, againB, if_neg (fun h => g2 h.2.2)]))
                          go_wp2
                          go_ret2
                          exact ⟨by rw [HE.out]; rfl, hbV⟩
                      · have g1' : (m : Int) < 1 := by omega
                        have HE := hide (HBad.out (by rw [HEl.out, againB, if_neg (fun h => g1 h.2.1)]))
                        go_wp2
                        go_ret2
                        exact ⟨by rw [HE.out]; rfl, hbV⟩
                    · refine (little_none_i W (w.heap.size + 1) w.heap.size (p + 1) (4) _ _ s hatW hsbW hs (by omega) (by omega) (by omega) (by omega) (by omega)).mono ?_
                      rintro e V ⟨rfl, rfl⟩
                      have hcut := cutLow_out (4) (p + 1) s (by omega) (by omega)
                      have HE := hide (HBad.out (by unfold elemB; rw [HOne.out]; simp only; rw [if_neg m0, if_neg m1, if_neg m2, hcut]))
                      rw [← HWW.out] at dW aW azW
                      clear hcut
                      go_wp2
                      go_ret2
                      exact ⟨by rw [HE.out]; rfl, hbW⟩
            · have hlt' : ¬ (p : Int) < s.length := by omega
              have HN : Hid (s.drop p = []) := List.drop_eq_nil_of_le (by omega)
              by_cases hfull : made.length < n
              · have hne : ((made.length : Int) != n) = true := by simp; omega
                have HE : Hid (unpackB s most = (1, [])) := by show _ = _; rw [hE.out, HR.out, HN.out, unpB_nil, if_pos hfull]
                go_wp2
                go_ret2
                exact ⟨by rw [HE.out]; rfl, hbel⟩
              · have hne : ((made.length : Int) != n) = false := by simp; omega
                have HE : Hid (unpackB s most = (0, made)) := by show _ = _; rw [hE.out, HR.out, HN.out, unpB_nil, if_neg hfull]
                have hcv := run_bytesStr (P := Tryz.prog) Tryz.underlying63 Tryz.underlying5 Tryz.underlying9 ho
                go_wp2
                go_ret2
                exact ⟨by rw [HE.out]; rfl, hbel⟩
      · rw [hn]
        have HE : Hid (unpackB s most = (1, [])) := by show _ = _; rw [HU.out, hc]
        have hne : ((e : Int) != 0) = true := by simp; omega
        clear he hc hn
        go_wp2
        go_ret2
        exact ⟨by rw [HE.out]; rfl, hBox.alloc hBox.size _⟩
end Go.Proofs.YtmdakfmecfcbhaaGreat
