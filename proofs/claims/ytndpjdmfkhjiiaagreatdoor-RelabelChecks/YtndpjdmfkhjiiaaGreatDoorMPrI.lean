/- The parser of masks: a piece. -/
import Derived.Test.YtndpjdmfkhjiiaaGreatDoorProg
import Derived.Test.YtndpjdmfkhjiiaaGreatDoorKit
import Derived.Test.YtndpjdmfkhjiiaaGreatDoorMPar
import Derived.Test.YtndpjdmfkhjiiaaGreatDoorMLay
import Derived.Test.YtndpjdmfkhjiiaaGreatDoorMSet
import Derived.Test.YtndpjdmfkhjiiaaGreatDoorMWlk
import Derived.Test.YtndpjdmfkhjiiaaGreatDoorMPrA
import Derived.Test.YtndpjdmfkhjiiaaGreatDoorMPrB
import Derived.Test.YtndpjdmfkhjiiaaGreatDoorMPrC
import Derived.Test.YtndpjdmfkhjiiaaGreatDoorMPrD
import Derived.Test.YtndpjdmfkhjiiaaGreatDoorMPrE
import Derived.Test.YtndpjdmfkhjiiaaGreatDoorMPrG
import Derived.Test.YtndpjdmfkhjiiaaGreatDoorMPrH
import Derived.BigQuiet
set_option linter.unusedVariables false
set_option linter.unusedSimpArgs false
namespace Go.Proofs.YtndpjdmfkhjiiaaGreatDoor
open Go.RowKit
attribute [local go_sem] bs_size bs_toList bs_append bs_get bs_extract

/-- What an atom lays out at a place, whether it may take nothing, where it ends, how many groups there are then. -/
def atomOut (m : List UInt8) (f i g b : Nat) (c : UInt8) : Out (List St × Bool × Nat × Nat) :=
  if c.toNat = 40 then
    if g = 9 then some (.error (2, i))
    else bindO (pM m f true (i + 1) (g + 1)) fun x =>
      if isAt m x.2.1 41 then some (.ok (.mark (2 * g) :: .fork (starts x.1 (b + 2)) :: (comp x.1 (b + 2) (b + 2 + sz x.1) ++ [.mark (2 * g + 1)]), nothing x.1, x.2.1 + 1, x.2.2)) else some (.error (1, x.2.1))
  else bindO (pSet m i c) fun x => some (.ok ([.take x.1], false, x.2, g))
/-- Likewise a piece. -/
def pieceOut (m : List UInt8) (f i g b : Nat) (c : UInt8) : Out (List St × Bool × Nat × Nat) :=
  bindO (atomOut m f i g (b + 1) c) fun x => bindO (pSign m x.2.1 x.2.2.1) fun s => some (.ok (pieceC b s.1 x.1, x.2.1 || passed s.1, s.2, x.2.2.2))

def outPost (F : Nat → Prop) (pb : Nat) (m : List UInt8) (S : List St) (y : Except (Nat × Nat) (List St × Bool × Nat × Nat)) (w : World) (e : Ending) (w' : World) : Prop :=
  KeptX F pb w w' ∧ match y with
    | .error x => e = faulted x.1 x.2
    | .ok x => e = .returned (.bool x.2.1) ∧ parserAt w' F pb m x.2.2.1 (S ++ x.1) x.2.2.2

theorem atomOut_ok {m : List UInt8} {f i g b : Nat} {c : UInt8} {x} (hc : m[i]? = some c) (h : atomOut m f i g b c = some (.ok x)) : i < x.2.2.1 ∧ x.2.2.1 ≤ m.length ∧ x.1.length + 5 * i ≤ 5 * x.2.2.1 := by
  have li := get_lt hc
  unfold atomOut at h
  split at h
  · split at h
    · cases h
    · rcases bindO_eq h with ⟨_, _, e⟩ | ⟨y, hy, h⟩
      · cases e
      have h1 := pM_ok hy (by omega)
      have h2 := pM_sz hy (by omega)
      split at h
      · rename_i e
        have := isAt_lt e
        cases h
        simp [comp_length] at h2 ⊢
        omega
      · cases h
  · rcases bindO_eq h with ⟨_, _, e⟩ | ⟨y, hy, h⟩
    · cases e
    have h1 := pSet_ok hc hy
    cases h
    simp
    omega

theorem atom_any {m : List UInt8} {f : Nat} (hf : RowsOK m f) (w : World) (F : Nat → Prop) (pb i g : Nat) (S : List St) (c : UInt8) (y : Except (Nat × Nat) (List St × Bool × Nat × Nat)) (hp : parserAt w F pb m i S g) (hc : m[i]? = some c) (hg : g ≤ 9) (hS : S.length + 8 * (m.length - i) ≤ 100002) (hm : m.length ≤ 10000)
    (hy : atomOut m f i g S.length c = some y) : Calls Tryz.prog 161 #[.pointer (some ⟨pb, 0, none⟩)] w (outPost F pb m S y w) := by
  unfold atomOut at hy
  by_cases h40 : c.toNat = 40
  · rw [if_pos h40] at hy
    by_cases h9 : g = 9
    · rw [if_pos h9] at hy
      obtain rfl := Option.some.inj hy
      refine (atom_group hf w F pb i g S c (.error (0, 0)) hp hc h40 hg hS hm (fun h => absurd h9 h)).mono ?_
      rintro e w' ⟨h1, h2⟩
      rw [if_pos h9] at h2
      exact ⟨h1, h2⟩
    · rw [if_neg h9] at hy
      rcases bindO_eq hy with ⟨x, hx, e⟩ | ⟨x, hx, hy⟩
      · obtain rfl := e
        refine (atom_group hf w F pb i g S c (.error x) hp hc h40 hg hS hm (fun _ => hx)).mono ?_
        rintro e w' ⟨h1, h2⟩
        rw [if_neg h9] at h2
        exact ⟨h1, h2⟩
      · refine (atom_group hf w F pb i g S c (.ok x) hp hc h40 hg hS hm (fun _ => hx)).mono ?_
        rintro e w' ⟨h1, h2⟩
        rw [if_neg h9] at h2
        simp only at h2
        refine ⟨h1, ?_⟩
        split at hy
        · rename_i hd
          obtain rfl := Option.some.inj hy
          rw [if_pos hd] at h2
          refine ⟨h2.1, ?_⟩
          have := h2.2
          simpa [rowsSteps, List.append_assoc, Nat.add_assoc] using this
        · rename_i hd
          obtain rfl := Option.some.inj hy
          rw [if_neg hd] at h2
          exact h2
  · rw [if_neg h40] at hy
    obtain ⟨y2, hy2⟩ := pSet_some m i c
    refine (atom_set w F pb i g m S c y2 hp hc (by omega) hm h40 hy2).mono ?_
    rintro e w' ⟨h1, h2⟩
    refine ⟨h1, ?_⟩
    rw [hy2] at hy
    match y2, h2, hy with
    | .error x, h2, hy =>
      obtain rfl := Option.some.inj hy
      exact h2
    | .ok x, h2, hy =>
      obtain rfl := Option.some.inj hy
      exact h2

theorem set_at (S : List St) (x y : St) (l : List St) : (S ++ x :: l).set S.length y = S ++ y :: l := by simp
theorem get_at (S : List St) (x : St) (l : List St) : (S ++ x :: l)[S.length]? = some x := by simp

/-- The sign behind a piece, by what comes. -/
theorem sign_cases (m : List UInt8) (null : Bool) (j : Nat) :
    (comesB [42, 43] m j = true ∧ comesB [42, 63] m j = true ∧ pSign m null j = if null then some (.error (4, j)) else some (.ok (42, j + 1))) ∨
    (comesB [42, 43] m j = true ∧ comesB [42, 63] m j = false ∧ pSign m null j = if null then some (.error (4, j)) else some (.ok (43, j + 1))) ∨
    (comesB [42, 43] m j = false ∧ comesB [42, 63] m j = true ∧ pSign m null j = some (.ok (63, j + 1))) ∨
    (comesB [42, 43] m j = false ∧ comesB [42, 63] m j = false ∧ pSign m null j = some (.ok (0, j))) := by
  unfold comesB pSign
  cases hm : m[j]? with
  | none => simp
  | some c =>
    simp only [contains_nat, List.any_cons, List.any_nil, Bool.or_false, isSign, show UInt8.toNat 42 = 42 from rfl, show UInt8.toNat 43 = 43 from rfl, show UInt8.toNat 63 = 63 from rfl]
    by_cases h1 : c.toNat = 42
    · left; simp [h1]
    · by_cases h2 : c.toNat = 43
      · right; left; simp [h2]
      · by_cases h3 : c.toNat = 63
        · right; right; left; simp [h3]
        · right; right; right; simp [h1, h2, h3]

set_option maxRecDepth 20000 in
set_option maxHeartbeats 4000000 in
theorem piece_any {m : List UInt8} {f : Nat} (hf : RowsOK m f) (w : World) (F : Nat → Prop) (pb i g : Nat) (S : List St) (c : UInt8) (y : Except (Nat × Nat) (List St × Bool × Nat × Nat)) (hp : parserAt w F pb m i S g) (hc : m[i]? = some c) (hg : g ≤ 9) (hS : S.length + 8 * (m.length - i) ≤ 100001) (hm : m.length ≤ 10000)
    (hy : pieceOut m f i g S.length c = some y) : Calls Tryz.prog 155 #[.pointer (some ⟨pb, 0, none⟩)] w (outPost F pb m S y w) := by
  have hi := get_lt hc
  have HF := hide hf
  have HC := hide hc
  have HY := hide hy
  have HP := hide hp
  clear hf hc hy hp
  go_enter Tryz.func155, Tryz.ntmps155
  go_wp2_with fail
  refine (add_any w F pb m i g S ⟨.fork [], 0, 0, 0, 0, 0, .slice none 0 0⟩ HP.out rfl (fun w => ⟨World.ownsRow_nil _ _ _ _, trivial⟩) (by omega)).mono ?_
  rintro e w1 ⟨rfl, hk1, hp1⟩
  have HK1 := hide hk1
  have HP1 : Hid (parserAt w1 F pb m i (S ++ [.fork []]) g) := hide hp1
  clear hk1 hp1
  obtain ⟨_, _, ao, cp, hblk⟩ := HP1.out.cells
  rw [List.length_append] at hblk
  obtain ⟨c0, c1, c2, c3⟩ := four_cells hblk
  clear hblk c0 c1 c3
  go_wp2_with fail
  refine (way_any w1 F pb m i g S.length (S.length + 1) (S ++ [.fork []]) [] HP1.out (get_at S _ []) (by simp) (by rw [List.length_append]; simp; omega)).mono ?_
  rintro e w2 ⟨rfl, hk2, hp2⟩
  have HK2 := hide (HK1.out.trans hk2)
  have HP2 : Hid (parserAt w2 F pb m i (S ++ [.fork [S.length + 1]]) g) := by
    rw [set_at S] at hp2
    exact hide hp2
  clear hk2 hp2 c2
  go_wp2_with fail
  have hbl : (S ++ [St.fork [S.length + 1]]).length = S.length + 1 := by simp
  rcases bindO_eq HY.out with ⟨x, hx, e⟩ | ⟨x, hx, hy2⟩
  · obtain rfl := e
    refine (atom_any HF.out w2 F pb i g (S ++ [.fork [S.length + 1]]) c (.error x) HP2.out HC.out hg (by rw [hbl]; omega) hm (by rw [hbl]; exact hx)).mono ?_
    rintro e w3 ⟨hk3, rfl⟩
    exact ⟨rfl, HK2.out.trans hk3, rfl⟩
  · have hao := atomOut_ok HC.out hx
    have HX := hide hx
    clear hx
    refine (atom_any HF.out w2 F pb i g (S ++ [.fork [S.length + 1]]) c (.ok x) HP2.out HC.out hg (by rw [hbl]; omega) hm (by rw [hbl]; exact HX.out)).mono ?_
    obtain ⟨body, null, j, h⟩ := x
    rintro e w3 ⟨hk3, he, hp3⟩
    simp only at he hp3 hao hy2
    subst he
    have HK3 := hide (HK2.out.trans hk3)
    have HP3 : Hid (∀ n, parserAt (w3.drewN n) F pb m j (S ++ .fork [S.length + 1] :: body) h) := by
      rw [List.append_assoc] at hp3
      exact hide fun n => hp3
    have HY2 := hide hy2
    obtain ⟨hij, hjm, hbz⟩ := hao
    clear hk3 hp3 hy2
    go_wp2_with fail
    refine (comes_any w3 F pb m [42, 43] j h _ (HP3.out 0) (by omega) hjm).mono ?_
    rintro e w4 ⟨rfl, n4, rfl⟩
    go_wp2_with fail
    refine (comes_any (w3.drewN n4) F pb m [42, 63] j h _ (HP3.out n4) (by omega) hjm).mono ?_
    rintro e w5 ⟨rfl, n5, rfl⟩
    rw [World.drewN_drewN]
    have HP5 : Hid (parserAt (w3.drewN (n4 + n5)) F pb m j (S ++ .fork [S.length + 1] :: body) h) := hide (HP3.out _)
    have HK5 : Hid (KeptX F pb w (w3.drewN (n4 + n5))) := hide HK3.out.drawN
    obtain ⟨W5, HW5⟩ : ∃ W5, Hid (W5 = w3.drewN (n4 + n5)) := ⟨_, hide rfl⟩
    rw [← HW5.out] at HP5 HK5 ⊢
    clear HP3
    obtain ⟨S2, HS2⟩ : ∃ S2, Hid (S ++ .fork [S.length + 1] :: body = S2) := ⟨_, hide rfl⟩
    have hl2 : S2.length = S.length + 1 + body.length := by rw [← HS2.out]; simp; omega
    rw [HS2.out] at HP5
    have HL2 := hide hl2
    have hl2b : S2.length ≤ 1000000 := by omega
    clear hl2
    have hwr : IntKind.i64.wrap ((j : Int) + 1) = (j : Int) + 1 := wrap_i64_small _ (by omega) (by omega)
    rcases sign_cases m null j with ⟨ha, hpz, hs⟩ | ⟨ha, hpz, hs⟩ | ⟨ha, hpz, hs⟩ | ⟨ha, hpz, hs⟩
    · rw [ha, hpz]
      cases null with
      | true =>
        have HE : Hid (y = .error (4, j)) := by show _ = _; have h := HY2.out; rw [hs] at h; exact (Option.some.inj h).symm
        clear ha hpz hs
        go_wp2_with fail
        refine (giveUp_any W5 F pb m j h _ 4 HP5.out).mono ?_
        rintro e w6 ⟨rfl, rfl⟩
        rw [HE.out]
        exact ⟨rfl, HK5.out, rfl⟩
      | false =>
        have HE : Hid (y = .ok (pieceC S.length 42 body, true, j + 1, h)) := by show _ = _; have h := HY2.out; rw [hs] at h; exact (Option.some.inj h).symm
        have hlt := comesB_lt ha
        clear ha hpz hs
        go_wp2_with fail
        refine (add_any W5 F pb m j h S2 ⟨.fork [], 0, 0, 0, 0, 0, .slice none 0 0⟩ HP5.out rfl (fun w => ⟨World.ownsRow_nil _ _ _ _, trivial⟩) (by have := HL2.out; omega)).mono ?_
        rintro e w6 ⟨rfl, hk6, hp6⟩
        have HK6 := hide (HK5.out.trans hk6)
        have HP6 : Hid (parserAt w6 F pb m j (S2 ++ [.fork []]) h) := hide hp6
        clear hk6 hp6
        go_wp2_with fail
        refine (way_any w6 F pb m j h S2.length (S.length + 1) (S2 ++ [.fork []]) [] HP6.out (get_at S2 _ []) (by simp) (by have := HL2.out; rw [List.length_append]; simp; omega)).mono ?_
        rintro e w7 ⟨rfl, hk7, hp7⟩
        have HK7 := hide (HK6.out.trans hk7)
        have HP7 : Hid (parserAt w7 F pb m j (S2 ++ [.fork [S.length + 1]]) h) := by
          rw [set_at S2] at hp7
          exact hide hp7
        clear hk7 hp7
        obtain ⟨_, _, ao7, cp7, hblk⟩ := HP7.out.cells
        rw [List.length_append] at hblk
        obtain ⟨c0, c1, c2, c3⟩ := four_cells hblk
        clear hblk c0 c1 c3
        go_wp2_with fail
        refine (way_any w7 F pb m j h S2.length (S2.length + 1) (S2 ++ [.fork [S.length + 1]]) [S.length + 1] HP7.out (get_at S2 _ []) (by simp) (by have := HL2.out; rw [List.length_append]; simp; omega)).mono ?_
        rintro e w8 ⟨rfl, hk8, hp8⟩
        have HK8 := hide (HK7.out.trans hk8)
        have HP8 : Hid (parserAt w8 F pb m j (S2 ++ [.fork [S.length + 1, S2.length + 1]]) h) := by
          rw [set_at S2] at hp8
          exact hide hp8
        clear hk8 hp8 c2
        obtain ⟨_, _, ao8, cp8, hblk⟩ := HP8.out.cells
        rw [List.length_append] at hblk
        obtain ⟨c0, c1, c2, c3⟩ := four_cells hblk
        clear hblk c0 c1 c3
        go_wp2_with fail
        have HP8' : Hid (parserAt w8 F pb m j (S ++ .fork [S.length + 1] :: (body ++ [.fork [S.length + 1, S2.length + 1]])) h) := by
          have := HP8.out
          rw [← HS2.out, List.append_assoc, List.cons_append, HS2.out] at this
          exact hide this
        refine (way_any w8 F pb m j h S.length (S2.length + 1) (S ++ .fork [S.length + 1] :: (body ++ [.fork [S.length + 1, S2.length + 1]])) [S.length + 1] HP8'.out (get_at S _ _) (by simp) (by simp; omega)).mono ?_
        rintro e w9 ⟨rfl, hk9, hp9⟩
        have HK9 := hide (HK8.out.trans hk9)
        have HP9 : Hid (parserAt w9 F pb m j (S ++ pieceC S.length 42 body) h) := by
          rw [set_at S] at hp9
          have e : pieceC S.length 42 body = .fork [S.length + 1, S2.length + 1] :: (body ++ [.fork [S.length + 1, S2.length + 1]]) := by
            simp [pieceC, passed, again, HL2.out]; omega
          rw [e]
          exact hide hp9
        clear hk9 hp9 c2
        obtain ⟨_, _, ao9, cp9, hblk⟩ := HP9.out.cells
        obtain ⟨k0, k1, k2, k3⟩ := four_cells hblk
        obtain ⟨z0, z1, z2, z3⟩ := four_free hblk
        clear hblk k0 k2 k3
        go_wp2
        go_ret
        rw [HE.out]
        exact ⟨HK9.out.setAt _ _, rfl, HP9.out.on _ (by simp)⟩
    · rw [ha, hpz]
      cases null with
      | true =>
        have HE : Hid (y = .error (4, j)) := by show _ = _; have h := HY2.out; rw [hs] at h; exact (Option.some.inj h).symm
        clear ha hpz hs
        go_wp2_with fail
        refine (giveUp_any W5 F pb m j h _ 4 HP5.out).mono ?_
        rintro e w6 ⟨rfl, rfl⟩
        rw [HE.out]
        exact ⟨rfl, HK5.out, rfl⟩
      | false =>
        have HE : Hid (y = .ok (pieceC S.length 43 body, false, j + 1, h)) := by show _ = _; have h := HY2.out; rw [hs] at h; exact (Option.some.inj h).symm
        have hlt := comesB_lt ha
        clear ha hpz hs
        go_wp2_with fail
        refine (add_any W5 F pb m j h S2 ⟨.fork [], 0, 0, 0, 0, 0, .slice none 0 0⟩ HP5.out rfl (fun w => ⟨World.ownsRow_nil _ _ _ _, trivial⟩) (by have := HL2.out; omega)).mono ?_
        rintro e w6 ⟨rfl, hk6, hp6⟩
        have HK6 := hide (HK5.out.trans hk6)
        have HP6 : Hid (parserAt w6 F pb m j (S2 ++ [.fork []]) h) := hide hp6
        clear hk6 hp6
        go_wp2_with fail
        refine (way_any w6 F pb m j h S2.length (S.length + 1) (S2 ++ [.fork []]) [] HP6.out (get_at S2 _ []) (by simp) (by have := HL2.out; rw [List.length_append]; simp; omega)).mono ?_
        rintro e w7 ⟨rfl, hk7, hp7⟩
        have HK7 := hide (HK6.out.trans hk7)
        have HP7 : Hid (parserAt w7 F pb m j (S2 ++ [.fork [S.length + 1]]) h) := by
          rw [set_at S2] at hp7
          exact hide hp7
        clear hk7 hp7
        obtain ⟨_, _, ao7, cp7, hblk⟩ := HP7.out.cells
        rw [List.length_append] at hblk
        obtain ⟨c0, c1, c2, c3⟩ := four_cells hblk
        clear hblk c0 c1 c3
        go_wp2_with fail
        refine (way_any w7 F pb m j h S2.length (S2.length + 1) (S2 ++ [.fork [S.length + 1]]) [S.length + 1] HP7.out (get_at S2 _ []) (by simp) (by have := HL2.out; rw [List.length_append]; simp; omega)).mono ?_
        rintro e w8 ⟨rfl, hk8, hp8⟩
        have HK8 := hide (HK7.out.trans hk8)
        have HP8 : Hid (parserAt w8 F pb m j (S2 ++ [.fork [S.length + 1, S2.length + 1]]) h) := by
          rw [set_at S2] at hp8
          exact hide hp8
        clear hk8 hp8 c2
        have HP9 : Hid (parserAt w8 F pb m j (S ++ pieceC S.length 43 body) h) := by
          have := HP8.out
          rw [← HS2.out, List.append_assoc, List.cons_append, HS2.out] at this
          have e : pieceC S.length 43 body = .fork [S.length + 1] :: (body ++ [.fork [S.length + 1, S2.length + 1]]) := by
            simp [pieceC, passed, again, HL2.out]; omega
          rw [e]
          exact hide this
        have HK9 := HK8
        obtain ⟨_, _, ao9, cp9, hblk⟩ := HP9.out.cells
        obtain ⟨k0, k1, k2, k3⟩ := four_cells hblk
        obtain ⟨z0, z1, z2, z3⟩ := four_free hblk
        clear hblk k0 k2 k3
        go_wp2
        go_ret
        rw [HE.out]
        exact ⟨HK9.out.setAt _ _, rfl, HP9.out.on _ (by simp)⟩
    · rw [ha, hpz]
      have HE : Hid (y = .ok (pieceC S.length 63 body, true, j + 1, h)) := by show _ = _; have h := HY2.out; rw [hs] at h; have := (Option.some.inj h).symm; simpa [passed] using this
      have hlt := comesB_lt hpz
      clear ha hpz hs
      obtain ⟨_, _, ao8, cp8, hblk⟩ := HP5.out.cells
      obtain ⟨c0, c1, c2, c3⟩ := four_cells hblk
      clear hblk c0 c1 c3
      go_wp2_with fail
      have HP8' : Hid (parserAt W5 F pb m j (S ++ .fork [S.length + 1] :: body) h) := by
        have := HP5.out
        rw [← HS2.out] at this
        exact hide this
      refine (way_any W5 F pb m j h S.length S2.length (S ++ .fork [S.length + 1] :: body) [S.length + 1] HP8'.out (get_at S _ _) (by simp) (by simp; omega)).mono ?_
      rintro e w9 ⟨rfl, hk9, hp9⟩
      have HK9 := hide (HK5.out.trans hk9)
      have HP9 : Hid (parserAt w9 F pb m j (S ++ pieceC S.length 63 body) h) := by
        rw [set_at S] at hp9
        have e : pieceC S.length 63 body = .fork [S.length + 1, S2.length] :: body := by
          simp [pieceC, passed, again, HL2.out]
        rw [e]
        exact hide hp9
      clear hk9 hp9 c2
      cases null with
      | true =>
        obtain ⟨_, _, ao9, cp9, hblk⟩ := HP9.out.cells
        obtain ⟨k0, k1, k2, k3⟩ := four_cells hblk
        obtain ⟨z0, z1, z2, z3⟩ := four_free hblk
        clear hblk k0 k2 k3
        go_wp2
        go_ret
        rw [HE.out]
        exact ⟨HK9.out.setAt _ _, rfl, HP9.out.on _ (by simp)⟩
      | false =>
        obtain ⟨_, _, ao9, cp9, hblk⟩ := HP9.out.cells
        obtain ⟨k0, k1, k2, k3⟩ := four_cells hblk
        obtain ⟨z0, z1, z2, z3⟩ := four_free hblk
        clear hblk k0 k2 k3
        go_wp2
        go_ret
        rw [HE.out]
        exact ⟨HK9.out.setAt _ _, rfl, HP9.out.on _ (by simp)⟩
    · rw [ha, hpz]
      have HE : Hid (y = .ok (pieceC S.length 0 body, null, j, h)) := by show _ = _; have h := HY2.out; rw [hs] at h; have := (Option.some.inj h).symm; simpa [passed] using this
      have HP9 : Hid (parserAt W5 F pb m j (S ++ pieceC S.length 0 body) h) := by
        have := HP5.out
        rw [← HS2.out] at this
        have e : pieceC S.length 0 body = .fork [S.length + 1] :: body := by
          simp [pieceC, passed, again]
        rw [e]
        exact hide this
      clear ha hpz hs
      cases null with
      | true =>
        go_wp2
        go_ret
        rw [HE.out]
        exact ⟨HK5.out, rfl, HP9.out⟩
      | false =>
        go_wp2
        go_ret
        rw [HE.out]
        exact ⟨HK5.out, rfl, HP9.out⟩

end Go.Proofs.YtndpjdmfkhjiiaaGreatDoor
