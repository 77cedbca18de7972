/- 4 texts in one. -/
import Derived.Test.YtndpjdmfkhjiiaaGreatDoorProg
import Derived.Test.YtndpjdmfkhjiiaaGreatDoorQ74d152
import Derived.Test.YtndpjdmfkhjiiaaGreatDoorQ3d7cfc
import Derived.Test.YtndpjdmfkhjiiaaGreatDoorQ082284
import Derived.Test.YtndpjdmfkhjiiaaGreatDoorQfa040f
import Derived.Test.YtndpjdmfkhjiiaaGreatDoorQa261f9
import Derived.BigQuiet
/- The parser of masks: a piece. -/
set_option linter.unusedVariables false
set_option linter.unusedSimpArgs false
namespace Go.Proofs.YtndpjdmfkhjiiaaGreatDoor
open Go.RowKit
attribute [local go_sem] bs_size bs_toList bs_append bs_get bs_extract

/-- What an atom lays out at a place, whether it may take nothing, where it ends, how many groups there are then. -/
def atomOut (m : List UInt8) (f i g b : Nat) (c : UInt8) : Out (List St × Bool × Nat × Nat) :=
  if c.toNat = 40 then
    if g = 9 then some (.error (2, i))
    else bindO (pM m f true (i + 1) (g + 1)) fun x =>
      if isAt m x.2.1 41 then some (.ok (.mark (2 * g) :: .fork (starts x.1 (b + 2)) :: (comp x.1 (b + 2) (b + 2 + sz x.1) ++ [.mark (2 * g + 1)]), nothing x.1, x.2.1 + 1, x.2.2)) else some (.error (1, x.2.1))
  else bindO (pSet m i c) fun x => some (.ok ([.take x.1], false, x.2, g))
/-- Likewise a piece. -/
def pieceOut (m : List UInt8) (f i g b : Nat) (c : UInt8) : Out (List St × Bool × Nat × Nat) :=
  bindO (atomOut m f i g (b + 1) c) fun x => bindO (pSign m x.2.1 x.2.2.1) fun s => some (.ok (pieceC b s.1 x.1, x.2.1 || passed s.1, s.2, x.2.2.2))

def outPost (F : Nat → Prop) (pb : Nat) (m : List UInt8) (S : List St) (y : Except (Nat × Nat) (List St × Bool × Nat × Nat)) (w : World) (e : Ending) (w' : World) : Prop :=
  KeptX F pb w w' ∧ match y with
    | .error x => e = faulted x.1 x.2
    | .ok x => e = .returned (.bool x.2.1) ∧ parserAt w' F pb m x.2.2.1 (S ++ x.1) x.2.2.2

theorem atomOut_ok {m : List UInt8} {f i g b : Nat} {c : UInt8} {x} (hc : m[i]? = some c) (h : atomOut m f i g b c = some (.ok x)) : i < x.2.2.1 ∧ x.2.2.1 ≤ m.length ∧ x.1.length + 5 * i ≤ 5 * x.2.2.1 := by
  have li := get_lt hc
  unfold atomOut at h
  split at h
  · split at h
    · cases h
    · rcases bindO_eq h with ⟨_, _, e⟩ | ⟨y, hy, h⟩
      · cases e
      have h1 := pM_ok hy (by omega)
      have h2 := pM_sz hy (by omega)
      split at h
      · rename_i e
        have := isAt_lt e
        cases h
        simp [comp_length] at h2 ⊢
        omega
      · cases h
  · rcases bindO_eq h with ⟨_, _, e⟩ | ⟨y, hy, h⟩
    · cases e
    have h1 := pSet_ok hc hy
    cases h
    simp
    omega

theorem atom_any {m : List UInt8} {f : Nat} (hf : RowsOK m f) (w : World) (F : Nat → Prop) (pb i g : Nat) (S : List St) (c : UInt8) (y : Except (Nat × Nat) (List St × Bool × Nat × Nat)) (hp : parserAt w F pb m i S g) (hc : m[i]? = some c) (hg : g ≤ 9) (hS : S.length + 8 * (m.length - i) ≤ 100002) (hm : m.length ≤ 10000)
    (hy : atomOut m f i g S.length c = some y) : Calls Tryz.prog 161 #[.pointer (some ⟨pb, 0, none⟩)] w (outPost F pb m S y w) := by
  unfold atomOut at hy
  by_cases h40 : c.toNat = 40
  · rw [if_pos h40] at hy
    by_cases h9 : g = 9
    · rw [if_pos h9] at hy
      obtain rfl := Option.some.inj hy
      refine (atom_group hf w F pb i g S c (.error (0, 0)) hp hc h40 hg hS hm (fun h => absurd h9 h)).mono ?_
      rintro e w' ⟨h1, h2⟩
      rw [if_pos h9] at h2
      exact ⟨h1, h2⟩
    · rw [if_neg h9] at hy
      rcases bindO_eq hy with ⟨x, hx, e⟩ | ⟨x, hx, hy⟩
      · obtain rfl := e
        refine (atom_group hf w F pb i g S c (.error x) hp hc h40 hg hS hm (fun _ => hx)).mono ?_
        rintro e w' ⟨h1, h2⟩
        rw [if_neg h9] at h2
        exact ⟨h1, h2⟩
      · refine (atom_group hf w F pb i g S c (.ok x) hp hc h40 hg hS hm (fun _ => hx)).mono ?_
        rintro e w' ⟨h1, h2⟩
        rw [if_neg h9] at h2
        simp only at h2
        refine ⟨h1, ?_⟩
        split at hy
        · rename_i hd
          obtain rfl := Option.some.inj hy
          rw [if_pos hd] at h2
          refine ⟨h2.1, ?_⟩
          have := h2.2
          simpa [rowsSteps, List.append_assoc, Nat.add_assoc] using this
        · rename_i hd
          obtain rfl := Option.some.inj hy
          rw [if_neg hd] at h2
          exact h2
  · rw [if_neg h40] at hy
    obtain ⟨y2, hy2⟩ := pSet_some m i c
    refine (atom_set w F pb i g m S c y2 hp hc (by omega) hm h40 hy2).mono ?_
    rintro e w' ⟨h1, h2⟩
    refine ⟨h1, ?_⟩
    rw [hy2] at hy
    match y2, h2, hy with
    | .error x, h2, hy =>
      obtain rfl := Option.some.inj hy
      exact h2
    | .ok x, h2, hy =>
      obtain rfl := Option.some.inj hy
      exact h2

theorem set_at (S : List St) (x y : St) (l : List St) : (S ++ x :: l).set S.length y = S ++ y :: l := by simp
theorem get_at (S : List St) (x : St) (l : List St) : (S ++ x :: l)[S.length]? = some x := by simp

/-- The sign behind a piece, by what comes. -/
theorem sign_cases (m : List UInt8) (null : Bool) (j : Nat) :
    (comesB [42, 43] m j = true ∧ comesB [42, 63] m j = true ∧ pSign m null j = if null then some (.error (4, j)) else some (.ok (42, j + 1))) ∨
    (comesB [42, 43] m j = true ∧ comesB [42, 63] m j = false ∧ pSign m null j = if null then some (.error (4, j)) else some (.ok (43, j + 1))) ∨
    (comesB [42, 43] m j = false ∧ comesB [42, 63] m j = true ∧ pSign m null j = some (.ok (63, j + 1))) ∨
    (comesB [42, 43] m j = false ∧ comesB [42, 63] m j = false ∧ pSign m null j = some (.ok (0, j))) := by
  unfold comesB pSign
  cases hm : m[j]? with
  | none => simp
  | some c =>
    simp only [contains_nat, List.any_cons, List.any_nil, Bool.or_false, isSign, show UInt8.toNat 42 = 42 from rfl, show UInt8.toNat 43 = 43 from rfl, show UInt8.toNat 63 = 63 from rfl]
    by_cases h1 : c.toNat = 42
    · left; simp [h1]
    · by_cases h2 : c.toNat = 43
      · right; left; simp [h2]
      · by_cases h3 : c.toNat = 63
        · right; right; left; simp [h3]
        · right; right; right; simp [h1, h2, h3]

set_option maxRecDepth 20000 in
set_option maxHeartbeats 4000000 in
theorem piece_any {m : List UInt8} {f : Nat} (hf : RowsOK m f) (w : World) (F : Nat → Prop) (pb i g : Nat) (S : List St) (c : UInt8) (y : Except (Nat × Nat) (List St × Bool × Nat × Nat)) (hp : parserAt w F pb m i S g) (hc : m[i]? = some c) (hg : g ≤ 9) (hS : S.length + 8 * (m.length - i) ≤ 100001) (hm : m.length ≤ 10000)
    (hy : pieceOut m f i g S.length c = some y) : Calls Tryz.prog 155 #[.pointer (some ⟨pb, 0, none⟩)] w (outPost F pb m S y w) := by
  have hi := get_lt hc
  have HF := hide hf
  have HC := hide hc
  have HY := hide hy
  have HP := hide hp
  clear hf hc hy hp
  go_enter Tryz.func155, Tryz.ntmps155
  go_wp2_with fail
  refine (add_any w F pb m i g S ⟨.fork [], 0, 0, 0, 0, 0, .slice none 0 0⟩ HP.out rfl (fun w => ⟨World.ownsRow_nil _ _ _ _, trivial⟩) (by omega)).mono ?_
  rintro e w1 ⟨rfl, hk1, hp1⟩
  have HK1 := hide hk1
  have HP1 : Hid (parserAt w1 F pb m i (S ++ [.fork []]) g) := hide hp1
  clear hk1 hp1
  obtain ⟨_, _, ao, cp, hblk⟩ := HP1.out.cells
  rw [List.length_append] at hblk
  obtain ⟨c0, c1, c2, c3⟩ := four_cells hblk
  clear hblk c0 c1 c3
  go_wp2_with fail
  refine (way_any w1 F pb m i g S.length (S.length + 1) (S ++ [.fork []]) [] HP1.out (get_at S _ []) (by simp) (by rw [List.length_append]; simp; omega)).mono ?_
  rintro e w2 ⟨rfl, hk2, hp2⟩
  have HK2 := hide (HK1.out.trans hk2)
  have HP2 : Hid (parserAt w2 F pb m i (S ++ [.fork [S.length + 1]]) g) := by
    rw [set_at S] at hp2
    exact hide hp2
  clear hk2 hp2 c2
  go_wp2_with fail
  have hbl : (S ++ [St.fork [S.length + 1]]).length = S.length + 1 := by simp
  rcases bindO_eq HY.out with ⟨x, hx, e⟩ | ⟨x, hx, hy2⟩
  · obtain rfl := e
    refine (atom_any HF.out w2 F pb i g (S ++ [.fork [S.length + 1]]) c (.error x) HP2.out HC.out hg (by rw [hbl]; omega) hm (by rw [hbl]; exact hx)).mono ?_
    rintro e w3 ⟨hk3, rfl⟩
    exact ⟨rfl, HK2.out.trans hk3, rfl⟩
  · have hao := atomOut_ok HC.out hx
    have HX := hide hx
    clear hx
    refine (atom_any HF.out w2 F pb i g (S ++ [.fork [S.length + 1]]) c (.ok x) HP2.out HC.out hg (by rw [hbl]; omega) hm (by rw [hbl]; exact HX.out)).mono ?_
    obtain ⟨body, null, j, h⟩ := x
    rintro e w3 ⟨hk3, he, hp3⟩
    simp only at he hp3 hao hy2
    subst he
    have HK3 := hide (HK2.out.trans hk3)
    have HP3 : Hid (∀ n, parserAt (w3.drewN n) F pb m j (S ++ .fork [S.length + 1] :: body) h) := by
      rw [List.append_assoc] at hp3
      exact hide fun n => hp3
    have HY2 := hide hy2
    obtain ⟨hij, hjm, hbz⟩ := hao
    clear hk3 hp3 hy2
    go_wp2_with fail
    refine (comes_any w3 F pb m [42, 43] j h _ (HP3.out 0) (by omega) hjm).mono ?_
    rintro e w4 ⟨rfl, n4, rfl⟩
    go_wp2_with fail
    refine (comes_any (w3.drewN n4) F pb m [42, 63] j h _ (HP3.out n4) (by omega) hjm).mono ?_
    rintro e w5 ⟨rfl, n5, rfl⟩
    rw [World.drewN_drewN]
    have HP5 : Hid (parserAt (w3.drewN (n4 + n5)) F pb m j (S ++ .fork [S.length + 1] :: body) h) := hide (HP3.out _)
    have HK5 : Hid (KeptX F pb w (w3.drewN (n4 + n5))) := hide HK3.out.drawN
    obtain ⟨W5, HW5⟩ : ∃ W5, Hid (W5 = w3.drewN (n4 + n5)) := ⟨_, hide rfl⟩
    rw [← HW5.out] at HP5 HK5 ⊢
    clear HP3
    obtain ⟨S2, HS2⟩ : ∃ S2, Hid (S ++ .fork [S.length + 1] :: body = S2) := ⟨_, hide rfl⟩
    have hl2 : S2.length = S.length + 1 + body.length := by rw [← HS2.out]; simp; omega
    rw [HS2.out] at HP5
    have HL2 := hide hl2
    have hl2b : S2.length ≤ 1000000 := by omega
    clear hl2
    have hwr : IntKind.i64.wrap ((j : Int) + 1) = (j : Int) + 1 := wrap_i64_small _ (by omega) (by omega)
    rcases sign_cases m null j with ⟨ha, hpz, hs⟩ | ⟨ha, hpz, hs⟩ | ⟨ha, hpz, hs⟩ | ⟨ha, hpz, hs⟩
    · rw [ha, hpz]
      cases null with
      | true =>
        have HE : Hid (y = .error (4, j)) := by show _ = _; have h := HY2.out; rw [hs] at h; exact (Option.some.inj h).symm
        clear ha hpz hs
        go_wp2_with fail
        refine (giveUp_any W5 F pb m j h _ 4 HP5.out).mono ?_
        rintro e w6 ⟨rfl, rfl⟩
        rw [HE.out]
        exact ⟨rfl, HK5.out, rfl⟩
      | false =>
        have HE : Hid (y = .ok (pieceC S.length 42 body, true, j + 1, h)) := by show _ = _; have h := HY2.out; rw [hs] at h; exact (Option.some.inj h).symm
        have hlt := comesB_lt ha
        clear ha hpz hs
        go_wp2_with fail
        refine (add_any W5 F pb m j h S2 ⟨.fork [], 0, 0, 0, 0, 0, .slice none 0 0⟩ HP5.out rfl (fun w => ⟨World.ownsRow_nil _ _ _ _, trivial⟩) (by have := HL2.out; omega)).mono ?_
        rintro e w6 ⟨rfl, hk6, hp6⟩
        have HK6 := hide (HK5.out.trans hk6)
        have HP6 : Hid (parserAt w6 F pb m j (S2 ++ [.fork []]) h) := hide hp6
        clear hk6 hp6
        go_wp2_with fail
        refine (way_any w6 F pb m j h S2.length (S.length + 1) (S2 ++ [.fork []]) [] HP6.out (get_at S2 _ []) (by simp) (by have := HL2.out; rw [List.length_append]; simp; omega)).mono ?_
        rintro e w7 ⟨rfl, hk7, hp7⟩
        have HK7 := hide (HK6.out.trans hk7)
        have HP7 : Hid (parserAt w7 F pb m j (S2 ++ [.fork [S.length + 1]]) h) := by
          rw [set_at S2] at hp7
          exact hide hp7
        clear hk7 hp7
        obtain ⟨_, _, ao7, cp7, hblk⟩ := HP7.out.cells
        rw [List.length_append] at hblk
        obtain ⟨c0, c1, c2, c3⟩ := four_cells hblk
        clear hblk c0 c1 c3
        go_wp2_with fail
        refine (way_any w7 F pb m j h S2.length (S2.length + 1) (S2 ++ [.fork [S.length + 1]]) [S.length + 1] HP7.out (get_at S2 _ []) (by simp) (by have := HL2.out; rw [List.length_append]; simp; omega)).mono ?_
        rintro e w8 ⟨rfl, hk8, hp8⟩
        have HK8 := hide (HK7.out.trans hk8)
        have HP8 : Hid (parserAt w8 F pb m j (S2 ++ [.fork [S.length + 1, S2.length + 1]]) h) := by
          rw [set_at S2] at hp8
          exact hide hp8
        clear hk8 hp8 c2
        obtain ⟨_, _, ao8, cp8, hblk⟩ := HP8.out.cells
        rw [List.length_append] at hblk
        obtain ⟨c0, c1, c2, c3⟩ := four_cells hblk
        clear hblk c0 c1 c3
        go_wp2_with fail
        have HP8' : Hid (parserAt w8 F pb m j (S ++ .fork [S.length + 1] :: (body ++ [.fork [S.length + 1, S2.length + 1]])) h) := by
          have := HP8.out
          rw [← HS2.out, List.append_assoc, List.cons_append, HS2.out] at this
          exact hide this
        refine (way_any w8 F pb m j h S.length (S2.length + 1) (S ++ .fork [S.length + 1] :: (body ++ [.fork [S.length + 1, S2.length + 1]])) [S.length + 1] HP8'.out (get_at S _ _) (by simp) (by simp; omega)).mono ?_
        rintro e w9 ⟨rfl, hk9, hp9⟩
        have HK9 := hide (HK8.out.trans hk9)
        have HP9 : Hid (parserAt w9 F pb m j (S ++ pieceC S.length 42 body) h) := by
          rw [set_at S] at hp9
          have e : pieceC S.length 42 body = .fork [S.length + 1, S2.length + 1] :: (body ++ [.fork [S.length + 1, S2.length + 1]]) := by
            simp [pieceC, passed, again, HL2.out]; omega
          rw [e]
          exact hide hp9
        clear hk9 hp9 c2
        obtain ⟨_, _, ao9, cp9, hblk⟩ := HP9.out.cells
        obtain ⟨k0, k1, k2, k3⟩ := four_cells hblk
        obtain ⟨z0, z1, z2, z3⟩ := four_free hblk
        clear hblk k0 k2 k3
        go_wp2
        go_ret
        rw [HE.out]
        exact ⟨HK9.out.setAt _ _, rfl, HP9.out.on _ (by simp)⟩
    · rw [ha, hpz]
      cases null with
      | true =>
        have HE : Hid (y = .error (4, j)) := by show _ = _; have h := HY2.out; rw [hs] at h; exact (Option.some.inj h).symm
        clear ha hpz hs
        go_wp2_with fail
        refine (giveUp_any W5 F pb m j h _ 4 HP5.out).mono ?_
        rintro e w6 ⟨rfl, rfl⟩
        rw [HE.out]
        exact ⟨rfl, HK5.out, rfl⟩
      | false =>
        have HE : Hid (y = .ok (pieceC S.length 43 body, false, j + 1, h)) := by show _ = _; have h := HY2.out; rw [hs] at h; exact (Option.some.inj h).symm
        have hlt := comesB_lt ha
        clear ha hpz hs
        go_wp2_with fail
        refine (add_any W5 F pb m j h S2 ⟨.fork [], 0, 0, 0, 0, 0, .slice none 0 0⟩ HP5.out rfl (fun w => ⟨World.ownsRow_nil _ _ _ _, trivial⟩) (by have := HL2.out; omega)).mono ?_
        rintro e w6 ⟨rfl, hk6, hp6⟩
        have HK6 := hide (HK5.out.trans hk6)
        have HP6 : Hid (parserAt w6 F pb m j (S2 ++ [.fork []]) h) := hide hp6
        clear hk6 hp6
        go_wp2_with fail
        refine (way_any w6 F pb m j h S2.length (S.length + 1) (S2 ++ [.fork []]) [] HP6.out (get_at S2 _ []) (by simp) (by have := HL2.out; rw [List.length_append]; simp; omega)).mono ?_
        rintro e w7 ⟨rfl, hk7, hp7⟩
        have HK7 := hide (HK6.out.trans hk7)
        have HP7 : Hid (parserAt w7 F pb m j (S2 ++ [.fork [S.length + 1]]) h) := by
          rw [set_at S2] at hp7
          exact hide hp7
        clear hk7 hp7
        obtain ⟨_, _, ao7, cp7, hblk⟩ := HP7.out.cells
        rw [List.length_append] at hblk
        obtain ⟨c0, c1, c2, c3⟩ := four_cells hblk
        clear hblk c0 c1 c3
        go_wp2_with fail
        refine (way_any w7 F pb m j h S2.length (S2.length + 1) (S2 ++ [.fork [S.length + 1]]) [S.length + 1] HP7.out (get_at S2 _ []) (by simp) (by have := HL2.out; rw [List.length_append]; simp; omega)).mono ?_
        rintro e w8 ⟨rfl, hk8, hp8⟩
        have HK8 := hide (HK7.out.trans hk8)
        have HP8 : Hid (parserAt w8 F pb m j (S2 ++ [.fork [S.length + 1, S2.length + 1]]) h) := by
          rw [set_at S2] at hp8
          exact hide hp8
        clear hk8 hp8 c2
        have HP9 : Hid (parserAt w8 F pb m j (S ++ pieceC S.length 43 body) h) := by
          have := HP8.out
          rw [← HS2.out, List.append_assoc, List.cons_append, HS2.out] at this
          have e : pieceC S.length 43 body = .fork [S.length + 1] :: (body ++ [.fork [S.length + 1, S2.length + 1]]) := by
            simp [pieceC, passed, again, HL2.out]; omega
          rw [e]
          exact hide this
        have HK9 := HK8
        obtain ⟨_, _, ao9, cp9, hblk⟩ := HP9.out.cells
        obtain ⟨k0, k1, k2, k3⟩ := four_cells hblk
        obtain ⟨z0, z1, z2, z3⟩ := four_free hblk
        clear hblk k0 k2 k3
        go_wp2
        go_ret
        rw [HE.out]
        exact ⟨HK9.out.setAt _ _, rfl, HP9.out.on _ (by simp)⟩
    · rw [ha, hpz]
      have HE : Hid (y = .ok (pieceC S.length 63 body, true, j + 1, h)) := by show _ = _; have h := HY2.out; rw [hs] at h; have := (Option.some.inj h).symm; simpa [passed] using this
      have hlt := comesB_lt hpz
      clear ha hpz hs
      obtain ⟨_, _, ao8, cp8, hblk⟩ := HP5.out.cells
      obtain ⟨c0, c1, c2, c3⟩ := four_cells hblk
      clear hblk c0 c1 c3
      go_wp2_with fail
      have HP8' : Hid (parserAt W5 F pb m j (S ++ .fork [S.length + 1] :: body) h) := by
        have := HP5.out
        rw [← HS2.out] at this
        exact hide this
      refine (way_any W5 F pb m j h S.length S2.length (S ++ .fork [S.length + 1] :: body) [S.length + 1] HP8'.out (get_at S _ _) (by simp) (by simp; omega)).mono ?_
      rintro e w9 ⟨rfl, hk9, hp9⟩
      have HK9 := hide (HK5.out.trans hk9)
      have HP9 : Hid (parserAt w9 F pb m j (S ++ pieceC S.length 63 body) h) := by
        rw [set_at S] at hp9
        have e : pieceC S.length 63 body = .fork [S.length + 1, S2.length] :: body := by
          simp [pieceC, passed, again, HL2.out]
        rw [e]
        exact hide hp9
      clear hk9 hp9 c2
      cases null with
      | true =>
        obtain ⟨_, _, ao9, cp9, hblk⟩ := HP9.out.cells
        obtain ⟨k0, k1, k2, k3⟩ := four_cells hblk
        obtain ⟨z0, z1, z2, z3⟩ := four_free hblk
        clear hblk k0 k2 k3
        go_wp2
        go_ret
        rw [HE.out]
        exact ⟨HK9.out.setAt _ _, rfl, HP9.out.on _ (by simp)⟩
      | false =>
        obtain ⟨_, _, ao9, cp9, hblk⟩ := HP9.out.cells
        obtain ⟨k0, k1, k2, k3⟩ := four_cells hblk
        obtain ⟨z0, z1, z2, z3⟩ := four_free hblk
        clear hblk k0 k2 k3
        go_wp2
        go_ret
        rw [HE.out]
        exact ⟨HK9.out.setAt _ _, rfl, HP9.out.on _ (by simp)⟩
    · rw [ha, hpz]
      have HE : Hid (y = .ok (pieceC S.length 0 body, null, j, h)) := by show _ = _; have h := HY2.out; rw [hs] at h; have := (Option.some.inj h).symm; simpa [passed] using this
      have HP9 : Hid (parserAt W5 F pb m j (S ++ pieceC S.length 0 body) h) := by
        have := HP5.out
        rw [← HS2.out] at this
        have e : pieceC S.length 0 body = .fork [S.length + 1] :: body := by
          simp [pieceC, passed, again]
        rw [e]
        exact hide this
      clear ha hpz hs
      cases null with
      | true =>
        go_wp2
        go_ret
        rw [HE.out]
        exact ⟨HK5.out, rfl, HP9.out⟩
      | false =>
        go_wp2
        go_ret
        rw [HE.out]
        exact ⟨HK5.out, rfl, HP9.out⟩

end Go.Proofs.YtndpjdmfkhjiiaaGreatDoor

/- The parser of masks: a row. -/
set_option linter.unusedVariables false
set_option linter.unusedSimpArgs false
namespace Go.Proofs.YtndpjdmfkhjiiaaGreatDoor
open Go.RowKit
attribute [local go_sem] bs_size bs_toList bs_append bs_get bs_extract

theorem bindO_none {α β : Type} {a : Out α} {k : α → Out β} (h : bindO a k = none) : a = none ∨ ∃ x, a = some (.ok x) ∧ k x = none := by
  match a, h with
  | none, _ => exact .inl rfl
  | some (.ok x), h => exact .inr ⟨x, rfl, h⟩
theorem bindO_assoc {α β γ : Type} (a : Out α) (k : α → Out β) (l : β → Out γ) : bindO (bindO a k) l = bindO a fun x => bindO (k x) l := by
  match a with
  | none => rfl
  | some (.error e) => rfl
  | some (.ok x) => rfl

/-- A row's first piece, and the rest. -/
theorem pM_piece {m : List UInt8} {f i g b : Nat} {c : UInt8} (hc : m[i]? = some c) (h1 : c.toNat ≠ 124) (h2 : c.toNat ≠ 41) {y} (hy : pM m (f + 1) false i g = some y) :
    (∃ e, pieceOut m f i g b c = some (.error e) ∧ y = .error e) ∨
    ∃ P null j h, ∃ K : Tr → Tr, pieceOut m f i g b c = some (.ok (P, null, j, h)) ∧ pM m (f + 1) false i g = (bindO (pM m f false j h) fun z => some (.ok (K z.1, z.2))) ∧
      (∀ T, comp (K T) b 0 = P ++ comp T (b + P.length) 0 ∧ nothing (K T) = (null && nothing T)) ∧ i < j ∧ j ≤ m.length ∧ (g ≤ 9 → h ≤ 9) ∧ P.length ≤ 8 * (j - i) := by
  have li := get_lt hc
  rw [pM] at hy
  simp only [hc] at hy
  rw [if_neg (by simp [h1, h2])] at hy
  by_cases h40 : c.toNat = 40
  · rw [if_pos h40] at hy
    by_cases h9 : g = 9
    · rw [if_pos h9] at hy
      cases hy
      left
      refine ⟨(2, i), ?_, rfl⟩
      unfold pieceOut atomOut
      rw [if_pos h40, if_pos h9]
      rfl
    · rw [if_neg h9] at hy
      rcases bindO_eq hy with ⟨e, he, rfl⟩ | ⟨x, hx, hy⟩
      · left
        refine ⟨e, ?_, rfl⟩
        unfold pieceOut atomOut
        rw [if_pos h40, if_neg h9, he]
        rfl
      · have k1 := pM_ok hx (by omega)
        have k2 := pM_sz hx (by omega)
        have k3 := (pM_is hx).2.2.2.1
        split at hy
        · rename_i hd
          have hdl := isAt_lt hd
          rcases bindO_eq hy with ⟨e, he, rfl⟩ | ⟨s, hs, hy⟩
          · left
            refine ⟨e, ?_, rfl⟩
            unfold pieceOut atomOut
            rw [if_pos h40, if_neg h9, hx]
            simp only [bindO]
            rw [if_pos hd]
            simp only
            rw [he]
          · right
            have k4 := pSign_ok hs (by omega)
            refine ⟨pieceC b s.1 (.mark (2 * g) :: .fork (starts x.1 (b + 3)) :: (comp x.1 (b + 3) (b + 3 + sz x.1) ++ [.mark (2 * g + 1)])), nothing x.1 || passed s.1, s.2, x.2.2, fun T => .grp g x.1 s.1 T, ?_, ?_, ?_, by omega, k4.2, fun hg => k3 (by omega), ?_⟩
            · unfold pieceOut atomOut
              rw [if_pos h40, if_neg h9, hx]
              simp only [bindO]
              rw [if_pos hd]
              simp only
              rw [hs]
            · rw [pM]
              simp only [hc]
              rw [if_neg (by simp [h1, h2]), if_pos h40, if_neg h9, hx]
              simp only [bindO]
              rw [if_pos hd, hs]
            · intro T
              refine ⟨?_, ?_⟩
              · rw [comp, pieceC_length]
                simp only [List.length_cons, List.length_append, comp_length, List.length_nil]
                rw [show b + 4 + again s.1 + sz x.1 = b + (1 + (sz x.1 + (0 + 1) + 1 + 1) + again s.1) from by omega]
              · simp only [nothing, passed]
                cases nothing x.1 <;> simp
            · have := again_le s.1
              rw [pieceC_length]
              simp only [List.length_cons, List.length_append, comp_length, List.length_nil]
              simp at k2
              omega
        · rename_i hd
          cases hy
          left
          refine ⟨(1, x.2.1), ?_, rfl⟩
          unfold pieceOut atomOut
          rw [if_pos h40, if_neg h9, hx]
          simp only [bindO]
          rw [if_neg hd]
  · rw [if_neg h40] at hy
    rcases bindO_eq hy with ⟨e, he, rfl⟩ | ⟨x, hx, hy⟩
    · left
      refine ⟨e, ?_, rfl⟩
      unfold pieceOut atomOut
      rw [if_neg h40, he]
      rfl
    · have k1 := pSet_ok hc hx
      rcases bindO_eq hy with ⟨e, he, rfl⟩ | ⟨s, hs, hy⟩
      · left
        refine ⟨e, ?_, rfl⟩
        unfold pieceOut atomOut
        rw [if_neg h40, hx]
        simp only [bindO]
        rw [he]
      · right
        have k4 := pSign_ok hs (by omega)
        refine ⟨pieceC b s.1 [.take x.1], passed s.1, s.2, g, fun T => .set x.1 s.1 T, ?_, ?_, ?_, by omega, k4.2, fun hg => hg, ?_⟩
        · unfold pieceOut atomOut
          rw [if_neg h40, hx]
          simp only [bindO]
          rw [hs]
          simp
        · rw [pM]
          simp only [hc]
          rw [if_neg (by simp [h1, h2]), if_neg h40, hx]
          simp only [bindO]
          rw [hs]
        · intro T
          refine ⟨?_, ?_⟩
          · rw [comp, pieceC_length]
            simp only [List.length_cons, List.length_nil]
            rw [show b + 2 + again s.1 = b + (1 + (0 + 1) + again s.1) from by omega]
          · simp only [nothing, passed]
        · have := again_le s.1
          rw [pieceC_length]
          simp only [List.length_cons, List.length_nil]
          omega

/-- What a row does. -/
def rowPost (F : Nat → Prop) (pb : Nat) (m : List UInt8) (S : List St) (y : Except (Nat × Nat) (Tr × Nat × Nat)) (w : World) (e : Ending) (w' : World) : Prop :=
  KeptX F pb w w' ∧ match y with
    | .error x => e = faulted x.1 x.2
    | .ok x => e = .returned (.bool (nothing x.1)) ∧ parserAt w' F pb m x.2.1 (S ++ comp x.1 S.length 0) x.2.2

/-- A row that is under way. -/
def goes (m : List UInt8) (f i g : Nat) (S : List St) (f' i' g' : Nat) (S' : List St) (null : Bool) : Prop :=
  ∃ K : Tr → Tr, pM m f false i g = (bindO (pM m f' false i' g') fun z => some (.ok (K z.1, z.2))) ∧ ∀ T, S ++ comp (K T) S.length 0 = S' ++ comp T S'.length 0 ∧ nothing (K T) = (null && nothing T)

theorem comes_row {m : List UInt8} {i : Nat} {c : UInt8} (h : m[i]? = some c) : comesB [124, 41] m i = (decide (c.toNat = 124) || decide (c.toNat = 41)) := by
  unfold comesB
  rw [h]
  simp only [contains_nat, List.any_cons, List.any_nil, Bool.or_false]
  rfl

set_option maxRecDepth 20000 in
set_option maxHeartbeats 4000000 in
theorem row_any {m : List UInt8} {f : Nat} (hf : ∀ f', f' < f → RowsOK m f') (w : World) (F : Nat → Prop) (pb i g : Nat) (S : List St) (y : Except (Nat × Nat) (Tr × Nat × Nat)) (hp : parserAt w F pb m i S g) (hi : i ≤ m.length) (hg : g ≤ 9) (hS : S.length + 8 * (m.length - i) ≤ 100001) (hm : m.length ≤ 10000)
    (hy : pM m f false i g = some y) : Calls Tryz.prog 141 #[.pointer (some ⟨pb, 0, none⟩)] w (rowPost F pb m S y w) := by
  have HF := hide hf
  have HY := hide hy
  have HP := hide hp
  clear hf hy hp
  go_enter Tryz.func141, Tryz.ntmps141
  go_wp2_with fail
  go_loopw [3] (fun v wr => ∃ f' i' g' S' null, v = .bool null ∧ f' ≤ f ∧ i' ≤ m.length ∧ g' ≤ 9 ∧ S'.length + 8 * (m.length - i') ≤ 100001 ∧ Hid (parserAt wr F pb m i' S' g') ∧ Hid (KeptX F pb w wr) ∧ Hid (goes m f i g S f' i' g' S' null)) (fun _ wr => m.length - placeOf wr pb)
  case atStart => exact ⟨f, i, g, S, true, rfl, Nat.le_refl _, hi, hg, hS, HP, hide (.refl _ _ _), hide ⟨fun T => T, by
    rw [HY.out]
    match y with
    | .error e => rfl
    | .ok x => rfl, fun T => ⟨rfl, by simp⟩⟩⟩
  case round =>
    obtain ⟨f', i', g', S', null, rfl, hf', hi', hg', hS', HPr, HKr, HG⟩ := hrel
    rename World => wr
    have hpl := HPr.out.place
    obtain ⟨_, _, ao, cp, hblk⟩ := HPr.out.cells
    obtain ⟨c0, c1, c2, c3⟩ := four_cells hblk
    have HBL : Hid (∀ n, parserAt (wr.drewN n) F pb m i' S' g') := hide fun n => HPr.out
    clear hblk c2 c3
    -- where it ends
    have hend : (i' = m.length ∨ ∃ c, m[i']? = some c ∧ (c.toNat = 124 ∨ c.toNat = 41)) → ∃ T, y = .ok (T, i', g') ∧ nothing T = null ∧ S ++ comp T S.length 0 = S' := by
      intro h
      obtain ⟨K, hK, hT⟩ := HG.out
      rw [HY.out] at hK
      have hnil : ∀ k, pM m (k + 1) false i' g' = some (.ok (.nil, i', g')) := by
        intro k
        rw [pM]
        rcases h with h | ⟨c, h1, h2⟩
        · rw [List.getElem?_eq_none_iff.2 (by omega)]
        · rw [h1]
          simp only
          rw [if_pos (by rcases h2 with h | h <;> simp [h])]
      cases f' with
      | zero => rw [pM] at hK; cases hK
      | succ k =>
        rw [hnil] at hK
        have := Option.some.inj hK
        refine ⟨K .nil, this, ?_, ?_⟩
        · rw [(hT .nil).2]; simp [nothing]
        · rw [(hT .nil).1]; simp [comp]
    by_cases hlt : i' < m.length
    · obtain ⟨c, hc⟩ : ∃ c, m[i']? = some c := ⟨_, List.getElem?_eq_getElem hlt⟩
      have hd : decide ((i' : Int) < m.length) = true := by simpa using hlt
      have HCM : Hid (∀ n, Calls Tryz.prog 154 #[.pointer (some ⟨pb, 0, none⟩), .string { data := #[124, 41] }] (wr.drewN n) fun e w' => e = .returned (.bool (decide (c.toNat = 124) || decide (c.toNat = 41))) ∧ ∃ k, w' = (wr.drewN n).drewN k) := by
        intro n
        have h := comes_any (wr.drewN n) F pb m [124, 41] i' g' S' (HBL.out n) (by omega) hi'
        rw [comes_row hc] at h
        exact h
      by_cases hs : c.toNat = 124 ∨ c.toNat = 41
      · have hb : (decide (c.toNat = 124) || decide (c.toNat = 41)) = true := by rcases hs with h | h <;> simp [h]
        rw [hb] at HCM
        obtain ⟨T, hyT, hnT, hsT⟩ := hend (.inr ⟨c, hc, hs⟩)
        have HYT := hide hyT
        have HNT := hide hnT
        have HST := hide hsT
        clear hb hs hc hend hyT hnT hsT
        go_wp2
        go_quiet ((go_at_call 154; exact Calls.quiet_of (HCM.out _)))
        go_wp2
        go_ret
        rw [HYT.out]
        exact ⟨HKr.out.drawN, by rw [HNT.out]; rfl, by rw [HST.out]; exact HBL.out _⟩
      · have hb : (decide (c.toNat = 124) || decide (c.toNat = 41)) = false := by
          simp only [not_or] at hs
          simp [hs.1, hs.2]
        rw [hb] at HCM
        simp only [not_or] at hs
        have HS := hide hs
        have HC := hide hc
        clear hb hs hc hend
        obtain ⟨K, hK, hT⟩ := HG.out
        rw [HY.out] at hK
        obtain ⟨f', rfl⟩ : ∃ k, f' = k + 1 := by
          cases f' with
          | zero => rw [pM] at hK; cases hK
          | succ k => exact ⟨k, rfl⟩
        obtain ⟨y', hy'⟩ : ∃ y', pM m (f' + 1) false i' g' = some y' := by
          cases h : pM m (f' + 1) false i' g' with
          | none => rw [h] at hK; cases hK
          | some y' => exact ⟨y', rfl⟩
        have HT := hide hT
        have HK := hide hK
        clear hT hK
        go_wp2
        go_quiet ((go_at_call 154; exact Calls.quiet_of (HCM.out _)))
        go_wp2_with fail
        rcases pM_piece (b := S'.length) HC.out HS.out.1 HS.out.2 hy' with ⟨er, ho, rfl⟩ | ⟨P, nul, j, h, K2, ho, hk2, hT2, hij, hjm, h9, hPl⟩
        · have HE : Hid (y = .error er) := by show _ = _; have h := HK.out; rw [hy'] at h; exact Option.some.inj h
          refine (piece_any (HF.out f' (by omega)) (wr.drewN nq) F pb i' g' S' c (.error er) (HBL.out nq) HC.out hg' hS' hm ho).mono ?_
          rintro e w1 ⟨hk1, rfl⟩
          exact ⟨rfl, HKr.out.trans ⟨hk1.os, hk1.tape, hk1.output, hk1.size, hk1.block⟩, by rw [HE.out]⟩
        · have HT2 := hide hT2
          have HK2 := hide hk2
          have HO := hide ho
          clear hT2 hk2 ho
          refine (piece_any (HF.out f' (by omega)) (wr.drewN nq) F pb i' g' S' c (.ok (P, nul, j, h)) (HBL.out nq) HC.out hg' hS' hm HO.out).mono ?_
          rintro e w1 ⟨hk1, rfl, hp1⟩
          have HP1 : Hid (parserAt w1 F pb m j (S' ++ P) h) := hide hp1
          have HK1 : Hid (KeptX F pb w w1) := hide (HKr.out.trans ⟨hk1.os, hk1.tape, hk1.output, hk1.size, hk1.block⟩)
          have hpl1 : placeOf w1 pb = j := hp1.place
          have HG1 : Hid (goes m f i g S f' j h (S' ++ P) (null && nul)) := by
            refine hide ⟨fun T => K (K2 T), ?_, fun T => ?_⟩
            · rw [HY.out, HK.out, HK2.out, bindO_assoc]
              match pM m f' false j h with
              | none => rfl
              | some (.error e) => rfl
              | some (.ok x) => rfl
            · refine ⟨?_, ?_⟩
              · rw [(HT.out (K2 T)).1, (HT2.out T).1, List.append_assoc, List.length_append]
              · rw [(HT.out (K2 T)).2, (HT2.out T).2, Bool.and_assoc]
          clear hk1 hp1
          simp only
          cases nul with
          | true =>
            go_wp2
            go_roundw
            case rel => exact ⟨f', j, h, S' ++ P, null, rfl, by omega, hjm, h9 hg', by rw [List.length_append]; omega, HP1, HK1, by have := HG1.out; rw [Bool.and_true] at this; exact hide this⟩
            case measure => rw [hpl1, hpl]; omega
          | false =>
            go_wp2
            go_roundw
            case rel => exact ⟨f', j, h, S' ++ P, false, rfl, by omega, hjm, h9 hg', by rw [List.length_append]; omega, HP1, HK1, by have := HG1.out; rw [Bool.and_false] at this; exact hide this⟩
            case measure => rw [hpl1, hpl]; omega
    · have hd : decide ((i' : Int) < m.length) = false := by simpa using hlt
      obtain ⟨T, hyT, hnT, hsT⟩ := hend (.inl (by omega))
      have HYT := hide hyT
      have HNT := hide hnT
      have HST := hide hsT
      clear hend hyT hnT hsT
      go_wp2
      go_quiet (fail)
      go_wp2
      go_ret
      rw [HYT.out]
      exact ⟨HKr.out.drawN, by rw [HNT.out]; rfl, by rw [HST.out]; exact HBL.out _⟩

end Go.Proofs.YtndpjdmfkhjiiaaGreatDoor

/- The parser of masks: rows, and so all of it. -/
set_option linter.unusedVariables false
set_option linter.unusedSimpArgs false
namespace Go.Proofs.YtndpjdmfkhjiiaaGreatDoor
open Go.RowKit
attribute [local go_sem] bs_size bs_toList bs_append bs_get bs_extract

/-! ### rows, one behind the other -/
def rowsOf (rs : List Tr) (T : Tr) : Tr := rs.foldr Tr.row T
def szL : List Tr → Nat
  | [] => 0
  | r :: rs => sz r + 1 + szL rs
def startsL : List Tr → Nat → List Nat
  | [], _ => []
  | r :: rs, b => b :: startsL rs (b + sz r + 1)
def endsL : List Tr → Nat → List Nat
  | [], _ => []
  | r :: rs, b => (b + sz r) :: endsL rs (b + sz r + 1)
/-- Rows with what their ends go on at. -/
def compW (q : Nat → List Nat) : List Tr → Nat → Nat → List St
  | [], _, _ => []
  | r :: rs, k, b => comp r b 0 ++ .fork (q k) :: compW q rs (k + 1) (b + sz r + 1)

theorem szL_snoc (rs : List Tr) (r : Tr) : szL (rs ++ [r]) = szL rs + sz r + 1 := by
  induction rs with
  | nil => simp [szL]
  | cons x rs ih => simp [szL, ih]; omega
theorem compW_length (q) : ∀ rs k b, (compW q rs k b).length = szL rs
  | [], _, _ => rfl
  | r :: rs, k, b => by simp [compW, comp_length, compW_length q rs, szL]; omega
theorem startsL_snoc : ∀ (rs : List Tr) (r : Tr) (b : Nat), startsL (rs ++ [r]) b = startsL rs b ++ [b + szL rs]
  | [], r, b => by simp [startsL, szL]
  | x :: rs, r, b => by simp [startsL, szL, startsL_snoc rs]; omega
theorem startsL_length : ∀ (rs : List Tr) (b : Nat), (startsL rs b).length = rs.length
  | [], _ => rfl
  | x :: rs, b => by simp [startsL, startsL_length rs]
theorem endsL_snoc : ∀ (rs : List Tr) (r : Tr) (b : Nat), endsL (rs ++ [r]) b = endsL rs b ++ [b + szL rs + sz r]
  | [], r, b => by simp [endsL, szL]
  | x :: rs, r, b => by simp [endsL, szL, endsL_snoc rs]; omega
theorem endsL_length : ∀ (rs : List Tr) (b : Nat), (endsL rs b).length = rs.length
  | [], _ => rfl
  | x :: rs, b => by simp [endsL, endsL_length rs]
theorem compW_snoc (q) : ∀ (rs : List Tr) (r : Tr) (k b : Nat), compW q (rs ++ [r]) k b = compW q rs k b ++ (comp r (b + szL rs) 0 ++ [.fork (q (k + rs.length))])
  | [], r, k, b => by simp [compW, szL]
  | x :: rs, r, k, b => by
    simp only [List.cons_append, compW, compW_snoc q rs, szL, List.append_assoc, List.length_cons]
    rw [show b + sz x + 1 + szL rs = b + (sz x + 1 + szL rs) from by omega, show k + 1 + rs.length = k + (rs.length + 1) from by omega]
theorem compW_congr {q q' : Nat → List Nat} : ∀ (rs : List Tr) (k b : Nat), (∀ j, k ≤ j → j < k + rs.length → q j = q' j) → compW q rs k b = compW q' rs k b
  | [], _, _, _ => rfl
  | r :: rs, k, b, h => by
    rw [compW, compW, h k (by omega) (by simp), compW_congr rs (k + 1) _ (fun j h1 h2 => h j (by omega) (by simp; omega))]
theorem compW_comp (e : Nat) : ∀ (rs : List Tr) (k b : Nat), compW (fun _ => [e]) rs k b = comp (rowsOf rs .nil) b e
  | [], _, _ => rfl
  | r :: rs, k, b => by
    rw [compW, compW_comp e rs]
    rfl
theorem startsL_starts : ∀ (rs : List Tr) (b : Nat), startsL rs b = starts (rowsOf rs .nil) b
  | [], _ => rfl
  | r :: rs, b => by
    rw [startsL, startsL_starts rs]
    rfl
theorem szL_sz : ∀ rs : List Tr, szL rs = sz (rowsOf rs .nil)
  | [] => rfl
  | r :: rs => by
    rw [szL, szL_sz rs]
    rfl
theorem endsL_ge : ∀ (rs : List Tr) (b n : Nat) (x : Nat), (endsL rs b)[n]? = some x → b ≤ x
  | [], b, n, x, h => by simp [endsL] at h
  | r :: rs, b, 0, x, h => by simp [endsL] at h; omega
  | r :: rs, b, n + 1, x, h => by
    have := endsL_ge rs (b + sz r + 1) n x (by simpa [endsL] using h)
    omega
theorem compW_get (q) : ∀ (rs : List Tr) (k b n : Nat) (x : Nat), (endsL rs b)[n]? = some x → (compW q rs k b)[x - b]? = some (.fork (q (k + n)))
  | [], k, b, n, x, h => by simp [endsL] at h
  | r :: rs, k, b, 0, x, h => by
    simp [endsL] at h
    subst h
    rw [compW, show b + sz r - b = (comp r b 0).length from by rw [comp_length]; omega, List.getElem?_append_right (Nat.le_refl _)]
    simp
  | r :: rs, k, b, n + 1, x, h => by
    have h' : (endsL rs (b + sz r + 1))[n]? = some x := by simpa [endsL] using h
    have hge := endsL_ge rs _ _ _ h'
    rw [compW, show x - b = (comp r b 0).length + (1 + (x - (b + sz r + 1))) from by rw [comp_length]; omega, List.getElem?_append_right (by omega), Nat.add_sub_cancel_left, Nat.add_comm 1, List.getElem?_cons_succ, compW_get q rs _ _ _ _ h']
    rw [show k + 1 + n = k + (n + 1) from by omega]
theorem compW_set (q : Nat → List Nat) (u : List Nat) : ∀ (rs : List Tr) (k b n : Nat) (x : Nat), (endsL rs b)[n]? = some x → (compW q rs k b).set (x - b) (.fork u) = compW (fun j => if j = k + n then u else q j) rs k b
  | [], k, b, n, x, h => by simp [endsL] at h
  | r :: rs, k, b, 0, x, h => by
    simp [endsL] at h
    subst h
    rw [compW, compW, show b + sz r - b = (comp r b 0).length from by rw [comp_length]; omega, List.set_append_right _ _ (Nat.le_refl _), Nat.sub_self, List.set_cons_zero]
    rw [if_pos (by omega)]
    congr 2
    exact compW_congr rs _ _ (fun j h1 h2 => by rw [if_neg (by omega)])
  | r :: rs, k, b, n + 1, x, h => by
    have h' : (endsL rs (b + sz r + 1))[n]? = some x := by simpa [endsL] using h
    have hge := endsL_ge rs _ _ _ h'
    rw [compW, compW, show x - b = (comp r b 0).length + (1 + (x - (b + sz r + 1))) from by rw [comp_length]; omega, List.set_append_right _ _ (by omega), Nat.add_sub_cancel_left, Nat.add_comm 1, List.set_cons_succ, compW_set q u rs _ _ _ _ h']
    rw [if_neg (by omega)]
    congr 2
    exact compW_congr rs _ _ (fun j h1 h2 => by
      by_cases e : j = k + 1 + n
      · rw [if_pos e, if_pos (by omega)]
      · rw [if_neg e, if_neg (by omega)])
theorem nothing_rows : ∀ rs : List Tr, rs ≠ [] → nothing (rowsOf rs .nil) = rs.any nothing
  | [], h => absurd rfl h
  | [r], _ => by simp [rowsOf, nothing]
  | r :: x :: rs, _ => by
    have ih := nothing_rows (x :: rs) (by simp)
    have : nothing (rowsOf (r :: x :: rs) .nil) = (nothing r || nothing (rowsOf (x :: rs) .nil)) := rfl
    rw [this, ih]
    rfl

/-! ### memory -/
theorem parserAt.grown {w w' : World} {F F' : Nat → Prop} {pb : Nat} {m : List UInt8} {i g : Nat} {S : List St} {row : Option Nat} (h : parserAt w F pb m i S g) (hg : w.grownBy w' row) (hr : ∀ k, row = some k → F k) (hpb : row ≠ some pb) (hF : ∀ k, F' k → k < w'.heap.size ∧ (F k ∨ w.heap.size ≤ k)) : parserAt w' F' pb m i S g := by
  obtain ⟨sv, rs, ⟨h1, h2, h3, h4, h5, h6, h7⟩, e⟩ := h
  refine ⟨sv, rs, ⟨fun k hk => (hF k hk).1, grown_block hg h2 hpb, ?_, fun j r hj => (h4 j r hj).keep fun b hb => ?_, h5, fun b hb hf => ?_, fun j r b hj hb hf => ?_⟩, e⟩
  · refine World.ownsRow.kept h3 hg ?_
    cases hv : sv.ownBlock with
    | none => exact .inl rfl
    | some b => exact .inr (fun e => h6 b hv (hr b e.symm))
  · exact hg.block b ((h4 j r hj).1.lt b hb).2 (fun e => h7 j r b hj hb (hr b e.symm))
  · rcases (hF b hf).2 with k | k
    · exact h6 b hb k
    · have := (h3.lt b hb).2; omega
  · rcases (hF b hf).2 with k | k
    · exact h7 j r b hj hb k
    · have := ((h4 j r hj).1.lt b hb).2; omega

theorem wpList_append_new {P : Program} {w : World} {ops : Array Oper} {rest : List Oper} {o : Oper} {a : Act} {Q : Exit → Act → World → Prop} (hgd : o.guard = none) (s x : Operand) (t : TypeId)
    (ho : o.op = .call { callee := .builtin .append, args := #[s, x], argTypes := #[t, t] })
    (base : Nat) (e : TypeId) (i : TypeInfo) (z : Value) (size bytes : Nat) (ht : P.underlying t = some (.slice e)) (hi : P.info? e = some i) (hz : i.zero = some z)
    (hsize : i.size = size) (hby : i.bytes = bytes) (hzs : z.cells.size = size) (hsz : 0 < size)
    (v : Value) (n : Nat) (xs : List Value) (hs : a.eval s = v) (hown : w.ownsRow base e size v n xs)
    (ad : Addr) (m c : Nat) (news : List Value) (hx : a.eval x = .slice (some ad) m c) (hl : news.length = m * size) (hnews : ∀ j u, news[j]? = some u → w.cell? (ad.add j) = some u) (h1 : ∀ u ∈ news, u.oneCell' = true)
    (h63 : n + m ≤ maxLen) (hbytes : (n + m) * bytes ≤ 140737488355328) (hbase : base ≤ w.heap.size)
    (h : ∀ v' w', w'.ownsRow base e size v' (n + m) (xs ++ news) → w.grownBy w' v.ownBlock → (v'.ownBlock = v.ownBlock ∨ ∃ g, v'.ownBlock = some g ∧ w.heap.size ≤ g) → wpList P ops Q rest (a.put o.dst v') w') : wpList P ops Q (o :: rest) a w :=
  wpList_plain hgd fun _ hK => by
    obtain ⟨v', w', hr, h2, h3, h4⟩ := run_append_new (P := P) w base t o.type e i z size bytes ht hi hz hsize hby hzs hsz v n xs hown ad m c news hl hnews h1 h63 hbytes hbase
    unfold Oper.wp execOp
    simp only [ho, resolve, invoke, builtin, Sem.run_bind, Sem.run_pure, Result.andThen_ok, List.map_toArray, List.map_cons, List.map_nil, hs, hx, hr]
    exact hK _ _ (h v' w' h2 h3 h4)

/-- What is to stay, and a row besides. -/
def andRow (F : Nat → Prop) (v : Value) : Nat → Prop := fun k => F k ∨ v.ownBlock = some k
def boolN : Value → Nat
  | .bool true => 1
  | _ => 0
/-- Rows that are under way: more of them, or no more. -/
def goesR (m : List UInt8) (f i g : Nat) (rs : List Tr) (i' g' : Nat) (more : Bool) : Prop :=
  (more = true → ∃ f', f' ≤ f ∧ pM m f true i g = bindO (pM m f' true i' g') fun z => some (.ok (rowsOf rs z.1, z.2))) ∧
  (more = false → rs ≠ [] ∧ pM m f true i g = some (.ok (rowsOf rs .nil, i', g')))

set_option maxRecDepth 20000 in
set_option maxHeartbeats 4000000 in
theorem rows_any {m : List UInt8} {f : Nat} (hm : m.length ≤ 10000) (hf : ∀ f', f' < f → RowsOK m f') : RowsOK m f := by
  intro w F pb i g S y hp hi hg hS hy
  have HF := hide hf
  have HY := hide hy
  have HP := hide hp
  clear hf hy hp
  obtain ⟨i0, hinf, hz0, hz1, hz2⟩ := info_parts Tryz.infoI
  go_enter Tryz.func121, Tryz.ntmps121
  go_wp2_with fail
  refine (add_any w F pb m i g S ⟨.fork [], 0, 0, 0, 0, 0, .slice none 0 0⟩ HP.out rfl (fun w => ⟨World.ownsRow_nil _ _ _ _, trivial⟩) (by omega)).mono ?_
  rintro e w1 ⟨rfl, hk1, hp1⟩
  have HK1 := hide hk1
  have HP1 : Hid (parserAt w1 F pb m i (S ++ [.fork []]) g) := hide hp1
  clear hk1 hp1
  obtain ⟨b, HB⟩ : ∃ b, Hid (S.length = b) := ⟨_, hide rfl⟩
  rw [HB.out] at hS ⊢
  go_wp2_with fail
  go_loopw [4, 5, 6] (fun ve vn vm wr => ∃ rs i' g' nul more, vn = .bool nul ∧ vm = .bool more ∧ i' ≤ m.length ∧ g' ≤ 9 ∧ b + 1 + szL rs + 8 * (m.length - i') ≤ 100002 ∧ (more = true → b + 1 + szL rs + 8 * (m.length - i') ≤ 100001) ∧ rs.length ≤ 10001 ∧ (more = true → rs.length ≤ i') ∧ Hid (wr.ownsRow w.heap.size 3 1 ve rs.length (intsV (endsL rs (b + 1)))) ∧
      Hid (parserAt wr (andRow F ve) pb m i' (S ++ .fork (startsL rs (b + 1)) :: compW (fun _ => []) rs 0 (b + 1)) g') ∧ Hid (KeptX F pb w wr) ∧ Hid (nul = rs.any nothing) ∧ Hid (goesR m f i g rs i' g' more)) (fun _ _ vm wr => m.length - placeOf wr pb + boolN vm)
  case atStart =>
    refine ⟨[], i, g, false, true, rfl, rfl, hi, hg, by simp [szL]; omega, fun _ => by simp [szL]; omega, by simp, fun _ => by simp, hide (World.ownsRow_nil _ _ _ _), hide ?_, HK1, hide rfl, hide ⟨fun _ => ⟨f, Nat.le_refl _, ?_⟩, fun h => by cases h⟩⟩
    · exact HP1.out.less (fun k hk => by rcases hk with h | h; exact h; cases h)
    · rw [HY.out]
      match y with
      | .error e => rfl
      | .ok x => rfl
  case round =>
    obtain ⟨rs, i', g', nul, more, rfl, rfl, hi', hg', hbd, hbm, hrl, hrm, HO, HPr, HKr, HN, HG⟩ := hrel
    rename World => wr
    obtain ⟨ve, rfl⟩ : ∃ ve, ve = u4 := ⟨_, rfl⟩
    have hpl := HPr.out.place
    obtain ⟨vb, vc, hve⟩ := own_shape HO.out
    have HVE := hide hve
    clear hve
    obtain ⟨hpb, hroom, ao, cp, hblk⟩ := HPr.out.cells
    have hvp : ve.ownBlock ≠ some pb := own_apart HO.out hblk (by decide)
    have hFr := HP.out.room
    have hln : (S ++ .fork (startsL rs (b + 1)) :: compW (fun _ => []) rs 0 (b + 1)).length = b + 1 + szL rs := by
      rw [List.length_append, List.length_cons, compW_length, HB.out]; omega
    rw [hln] at hblk
    obtain ⟨p, HPp⟩ : ∃ p, Hid (b + 1 + szL rs = p) := ⟨_, hide rfl⟩
    rw [HPp.out] at hblk hbd hbm hln
    obtain ⟨c0, c1, c2, c3⟩ := four_cells hblk
    have HLN := hide hln
    have HHV := hide hvp
    have HFR := hide hFr
    clear hblk c0 c1 c3 hln hvp hFr hroom hpb
    cases more with
    | true =>
      obtain ⟨f', hff, hG⟩ := HG.out.1 rfl
      have hbm2 := hbm rfl
      have hrm2 := hrm rfl
      clear hbm hrm
      obtain ⟨k, rfl⟩ : ∃ k, f' = k + 1 := by
        cases f' with
        | zero => rw [HY.out, pM] at hG; cases hG
        | succ k => exact ⟨k, rfl⟩
      have HGG := hide hG
      obtain ⟨y0, hy0⟩ : ∃ y0, pM m k false i' g' = some y0 := by
        cases h : pM m k false i' g' with
        | none => rw [HY.out, pM, h] at hG; cases hG
        | some y0 => exact ⟨y0, rfl⟩
      have HY0 := hide hy0
      clear hG hy0
      go_wp2_with fail
      refine (way_any wr (andRow F ve) pb m i' g' b p _ (startsL rs (b + 1)) HPr.out (by rw [← HB.out]; exact get_at S _ _) (by rw [startsL_length]; omega) (by rw [HLN.out]; omega)).mono ?_
      rintro e w2 ⟨rfl, hk2, hp2⟩
      have HK2 := hide hk2
      have HP2 : Hid (parserAt w2 (andRow F ve) pb m i' (S ++ .fork (startsL rs (b + 1) ++ [p]) :: compW (fun _ => []) rs 0 (b + 1)) g') := by
        have := set_at S (.fork (startsL rs (b + 1))) (.fork (startsL rs (b + 1) ++ [p])) (compW (fun _ => []) rs 0 (b + 1))
        rw [HB.out] at this
        rw [this] at hp2
        exact hide hp2
      have hl2 : (S ++ .fork (startsL rs (b + 1) ++ [p]) :: compW (fun _ => []) rs 0 (b + 1)).length = p := by
        rw [← HPp.out, List.length_append, List.length_cons, compW_length, HB.out]; omega
      have HL2 := hide hl2
      clear hk2 hp2 c2 hl2
      go_wp2_with fail
      refine (row_any (f := k) (fun f'' h => HF.out f'' (by omega)) w2 (andRow F ve) pb i' g' _ y0 HP2.out hi' hg' (by rw [HL2.out]; exact hbm2) hm HY0.out).mono ?_
      rintro e w3 ⟨hk3, he⟩
      have HK3 := hide (HK2.out.trans hk3)
      match y0, he, HY0 with
      | .error x, he, HY0 =>
        simp only at he
        subst he
        have HE : Hid (y = .error x) := by
          show _ = _
          have h := HGG.out
          rw [HY.out, pM, HY0.out] at h
          exact Option.some.inj h
        exact ⟨rfl, HKr.out.trans (HK3.out.less fun k hk => .inl hk), by rw [HE.out]⟩
      | .ok (r, j, h), he, HY0 =>
        simp only at he
        obtain ⟨rfl, hp3⟩ := he
        have hjo := pM_ok HY0.out hi'
        have hjs := pM_sz HY0.out hi'
        have hjg := (pM_is HY0.out).2.2.2.1 hg'
        simp at hjo hjs hjg
        rw [HL2.out] at hp3
        have HP3 := hide hp3
        have HPG : Hid (pM m f true i g = if isAt m j 124 then bindO (pM m k true (j + 1) h) fun z => some (.ok (rowsOf (rs ++ [r]) z.1, z.2)) else some (.ok (rowsOf (rs ++ [r]) .nil, j, h))) := by
          show _ = _
          rw [HGG.out, pM, HY0.out]
          by_cases hd : isAt m j 124 = true
          · rw [if_pos hd, bindO_assoc]
            simp only [bindO]
            rw [if_pos hd]
            match pM m k true (j + 1) h with
            | none => rfl
            | some (.error e) => rfl
            | some (.ok z) => simp [rowsOf, List.foldr_append]
          · rw [if_neg hd, bindO_assoc]
            simp only [bindO]
            rw [if_neg hd]
            simp [rowsOf, List.foldr_append]
        have hsz3 : (S ++ .fork (startsL rs (b + 1) ++ [p]) :: compW (fun _ => []) rs 0 (b + 1) ++ comp r p 0).length = p + sz r := by
          rw [List.length_append, comp_length, HL2.out]
        have HS3 := hide hsz3
        clear hk3 hp3 hsz3
        obtain ⟨nr, HNR⟩ : ∃ nr, Hid (nothing r = nr) := ⟨_, hide rfl⟩
        rw [HNR.out]
        -- both ways go on alike
        obtain ⟨S3, HS3e⟩ : ∃ S3, Hid (S ++ .fork (startsL rs (b + 1) ++ [p]) :: compW (fun _ => []) rs 0 (b + 1) ++ comp r p 0 = S3) := ⟨_, hide rfl⟩
        rw [HS3e.out] at HP3 HS3
        have hjp : j ≤ m.length := hjo.2
        obtain ⟨q, HQ⟩ : ∃ q, Hid (p + sz r = q) := ⟨_, hide rfl⟩
        have hql : q ≤ 1000000 := by have := HQ.out; omega
        cases nr with
        | true =>
          go_wp2_with fail
          refine (add_any w3 (andRow F ve) pb m j h S3 ⟨.fork [], 0, 0, 0, 0, 0, .slice none 0 0⟩ HP3.out rfl (fun w => ⟨World.ownsRow_nil _ _ _ _, trivial⟩) (by rw [HS3.out]; omega)).mono ?_
          rintro e w4 ⟨rfl, hk4, hp4⟩
          have HK4 := hide (HK3.out.trans hk4)
          have HP4 : Hid (parserAt w4 (andRow F ve) pb m j (S3 ++ [.fork []]) h) := hide hp4
          clear hk4 hp4
          have ho4 : w4.ownsRow w.heap.size 3 1 ve rs.length (intsV (endsL rs (b + 1))) := own_keep HO.out (fun g hg => HK4.out.block g (.inr hg) (fun e => HHV.out (e ▸ hg)))
          have hs4 : w.heap.size ≤ w4.heap.size := Nat.le_trans HKr.out.size HK4.out.size
          rw [HS3.out, HQ.out]
          obtain ⟨W5, HW5⟩ : ∃ W5, Hid (W5 = w4.alloc (.cells #[.int .i64 (q : Int)] 3)) := ⟨_, hide rfl⟩
          have g5 : Grow w4 W5 := by rw [HW5.out]; exact (Grow.refl _).alloc _
          have ho5 := own_grow ho4 g5
          have hb5 : W5.heap[w4.heap.size]? = some (.cells #[.int .i64 (q : Int)] 3 (0, 0)) := by rw [HW5.out]; exact heap_alloc_new _ _
          have hs5 : W5.heap.size = w4.heap.size + 1 := by rw [HW5.out]; simp
          have HO5 := hide ho5
          have HB5 := hide hb5
          have HP5 := hide (HP4.out.grow g5)
          have G5 := hide g5
          have eW5 := HW5.out.symm
          clear ho4 ho5 hb5 g5
          go_wp2_with (at_builtin; refine wpList_append_new rfl _ _ 46 rfl w.heap.size 3 i0 _ 1 8 Tryz.underlying46 hinf hz0 hz1 hz2 rfl (by omega) ve rs.length (intsV (endsL rs (b + 1))) rfl HO5.out ⟨w4.heap.size, 0, none⟩ 1 1 (intsV [q]) rfl rfl (fun z u hu => by
              match z, hu with
              | 0, hu =>
                simp [intsV] at hu
                subst hu
                rw [Addr.add_lit]
                exact cell_in HB5.out (by simp)) (intsV_oneCell _) (by unfold maxLen; omega) (by omega) (by omega) ?_; intro v' w6 hown' hgrow hnew; clear eW5; rw [← intsV_append] at hown'; have HO6 := hide hown'; have HG6 := hide hgrow; have HN6 := hide hnew; clear hown' hgrow hnew)
          have hp6 : parserAt w6 (andRow F v') pb m j (S3 ++ [.fork []]) h := HP5.out.grown HG6.out (fun k hk => .inr hk) HHV.out (fun k hk => by
            rcases hk with hk | hk
            · have := HFR.out k hk
              have := HG6.out.size
              exact ⟨by omega, .inl (.inl hk)⟩
            · refine ⟨(HO6.out.lt k hk).2, ?_⟩
              rcases HN6.out with h | ⟨z, h, h2⟩
              · exact .inl (.inr (h ▸ hk))
              · rw [h] at hk; cases hk; exact .inr h2)
          have HP6 := hide hp6
          have HK6 : Hid (KeptX F pb w w6) := hide (HKr.out.trans ((HK4.out.less fun k hk => .inl hk).trans ⟨HG6.out.os.trans G5.out.os, HG6.out.tape.trans G5.out.tape, HG6.out.output.trans G5.out.output, Nat.le_trans G5.out.size HG6.out.size, fun k hk hn => (HG6.out.block k (by have := HFR.out k hk; omega) (fun e => by have := (HO5.out.lt k e.symm).1; have := HFR.out k hk; omega)).trans (G5.out.block k (by have := HFR.out k hk; omega))⟩))
          clear hp6
          go_wp2_with fail
          refine (skip_any w6 (andRow F v') pb m [124] j h _ HP6.out (by omega) hjp).mono ?_
          rintro e w7 ⟨rfl, hk7, hp7⟩
          rw [comesB_nat _ _ 124 124 rfl] at hp7 ⊢
          have hv6 : v'.ownBlock ≠ some pb := by
            obtain ⟨_, _, _, _, hb⟩ := HP6.out.cells
            exact own_apart HO6.out hb (by decide)
          have ho7 : w7.ownsRow w.heap.size 3 1 v' (rs ++ [r]).length (intsV (endsL (rs ++ [r]) (b + 1))) := by
            rw [endsL_snoc, HPp.out, HQ.out, List.length_append]
            exact own_keep HO6.out (fun z hz => hk7.block z (HO6.out.lt z hz).2 (fun e => hv6 (e ▸ hz)) (fun e => hv6 (e ▸ hz)))
          have HO7 := hide ho7
          have HK7 := hide (HK6.out.trans (keptX_two hk7 (fun k hk => by have := HFR.out k hk; have := HK6.out.size; omega)))
          have heq : S3 ++ [St.fork []] = S ++ .fork (startsL (rs ++ [r]) (b + 1)) :: compW (fun _ => []) (rs ++ [r]) 0 (b + 1) := by
            rw [← HS3e.out, startsL_snoc, compW_snoc, HPp.out]
            simp
          rw [heq] at hp7
          have HN7 : Hid (true = (rs ++ [r]).any nothing) := by
            show _ = _
            rw [List.any_append, ← HN.out]
            simp [HNR.out]
          clear ho7 hk7 heq
          have hszl : szL (rs ++ [r]) = szL rs + sz r + 1 := szL_snoc rs r
          cases hd : isAt m j 124 with
          | true =>
            have hlt := isAt_lt hd
            rw [hd] at hp7
            have hpl7 : placeOf w7 pb = j + 1 := hp7.place
            have HP7 := hide hp7
            have HGR : Hid (goesR m f i g (rs ++ [r]) (j + 1) h true) := hide ⟨fun _ => ⟨k, by omega, by rw [HPG.out, if_pos hd]⟩, fun h => by cases h⟩
            clear hd hp7
            go_wp2
            go_roundw
            case rel => exact ⟨rs ++ [r], j + 1, h, true, true, rfl, rfl, hlt, hjg, by rw [hszl]; have := HPp.out; omega, fun _ => by rw [hszl]; have := HPp.out; omega, by simp; omega, fun _ => by simp; omega, HO7, HP7, HK7, HN7, HGR⟩
            case measure => rw [hpl7, hpl]; simp [boolN]; omega
          | false =>
            rw [hd] at hp7
            have hpl7 : placeOf w7 pb = j := hp7.place
            have HP7 := hide hp7
            have HGR : Hid (goesR m f i g (rs ++ [r]) j h false) := hide ⟨fun h => (by cases h), fun _ => ⟨by simp, by rw [HPG.out, if_neg (by simp [hd])]⟩⟩
            clear hd hp7
            go_wp2
            go_roundw
            case rel => exact ⟨rs ++ [r], j, h, true, false, rfl, rfl, hjp, hjg, by rw [hszl]; have := HPp.out; omega, fun h => (by cases h), by simp; omega, fun h => (by cases h), HO7, HP7, HK7, HN7, HGR⟩
            case measure => rw [hpl7, hpl]; simp [boolN]; omega
        | false =>
          go_wp2_with fail
          refine (add_any w3 (andRow F ve) pb m j h S3 ⟨.fork [], 0, 0, 0, 0, 0, .slice none 0 0⟩ HP3.out rfl (fun w => ⟨World.ownsRow_nil _ _ _ _, trivial⟩) (by rw [HS3.out]; omega)).mono ?_
          rintro e w4 ⟨rfl, hk4, hp4⟩
          have HK4 := hide (HK3.out.trans hk4)
          have HP4 : Hid (parserAt w4 (andRow F ve) pb m j (S3 ++ [.fork []]) h) := hide hp4
          clear hk4 hp4
          have ho4 : w4.ownsRow w.heap.size 3 1 ve rs.length (intsV (endsL rs (b + 1))) := own_keep HO.out (fun g hg => HK4.out.block g (.inr hg) (fun e => HHV.out (e ▸ hg)))
          have hs4 : w.heap.size ≤ w4.heap.size := Nat.le_trans HKr.out.size HK4.out.size
          rw [HS3.out, HQ.out]
          obtain ⟨W5, HW5⟩ : ∃ W5, Hid (W5 = w4.alloc (.cells #[.int .i64 (q : Int)] 3)) := ⟨_, hide rfl⟩
          have g5 : Grow w4 W5 := by rw [HW5.out]; exact (Grow.refl _).alloc _
          have ho5 := own_grow ho4 g5
          have hb5 : W5.heap[w4.heap.size]? = some (.cells #[.int .i64 (q : Int)] 3 (0, 0)) := by rw [HW5.out]; exact heap_alloc_new _ _
          have hs5 : W5.heap.size = w4.heap.size + 1 := by rw [HW5.out]; simp
          have HO5 := hide ho5
          have HB5 := hide hb5
          have HP5 := hide (HP4.out.grow g5)
          have G5 := hide g5
          have eW5 := HW5.out.symm
          clear ho4 ho5 hb5 g5
          go_wp2_with (at_builtin; refine wpList_append_new rfl _ _ 46 rfl w.heap.size 3 i0 _ 1 8 Tryz.underlying46 hinf hz0 hz1 hz2 rfl (by omega) ve rs.length (intsV (endsL rs (b + 1))) rfl HO5.out ⟨w4.heap.size, 0, none⟩ 1 1 (intsV [q]) rfl rfl (fun z u hu => by
              match z, hu with
              | 0, hu =>
                simp [intsV] at hu
                subst hu
                rw [Addr.add_lit]
                exact cell_in HB5.out (by simp)) (intsV_oneCell _) (by unfold maxLen; omega) (by omega) (by omega) ?_; intro v' w6 hown' hgrow hnew; clear eW5; rw [← intsV_append] at hown'; have HO6 := hide hown'; have HG6 := hide hgrow; have HN6 := hide hnew; clear hown' hgrow hnew)
          have hp6 : parserAt w6 (andRow F v') pb m j (S3 ++ [.fork []]) h := HP5.out.grown HG6.out (fun k hk => .inr hk) HHV.out (fun k hk => by
            rcases hk with hk | hk
            · have := HFR.out k hk
              have := HG6.out.size
              exact ⟨by omega, .inl (.inl hk)⟩
            · refine ⟨(HO6.out.lt k hk).2, ?_⟩
              rcases HN6.out with h | ⟨z, h, h2⟩
              · exact .inl (.inr (h ▸ hk))
              · rw [h] at hk; cases hk; exact .inr h2)
          have HP6 := hide hp6
          have HK6 : Hid (KeptX F pb w w6) := hide (HKr.out.trans ((HK4.out.less fun k hk => .inl hk).trans ⟨HG6.out.os.trans G5.out.os, HG6.out.tape.trans G5.out.tape, HG6.out.output.trans G5.out.output, Nat.le_trans G5.out.size HG6.out.size, fun k hk hn => (HG6.out.block k (by have := HFR.out k hk; omega) (fun e => by have := (HO5.out.lt k e.symm).1; have := HFR.out k hk; omega)).trans (G5.out.block k (by have := HFR.out k hk; omega))⟩))
          clear hp6
          go_wp2_with fail
          refine (skip_any w6 (andRow F v') pb m [124] j h _ HP6.out (by omega) hjp).mono ?_
          rintro e w7 ⟨rfl, hk7, hp7⟩
          rw [comesB_nat _ _ 124 124 rfl] at hp7 ⊢
          have hv6 : v'.ownBlock ≠ some pb := by
            obtain ⟨_, _, _, _, hb⟩ := HP6.out.cells
            exact own_apart HO6.out hb (by decide)
          have ho7 : w7.ownsRow w.heap.size 3 1 v' (rs ++ [r]).length (intsV (endsL (rs ++ [r]) (b + 1))) := by
            rw [endsL_snoc, HPp.out, HQ.out, List.length_append]
            exact own_keep HO6.out (fun z hz => hk7.block z (HO6.out.lt z hz).2 (fun e => hv6 (e ▸ hz)) (fun e => hv6 (e ▸ hz)))
          have HO7 := hide ho7
          have HK7 := hide (HK6.out.trans (keptX_two hk7 (fun k hk => by have := HFR.out k hk; have := HK6.out.size; omega)))
          have heq : S3 ++ [St.fork []] = S ++ .fork (startsL (rs ++ [r]) (b + 1)) :: compW (fun _ => []) (rs ++ [r]) 0 (b + 1) := by
            rw [← HS3e.out, startsL_snoc, compW_snoc, HPp.out]
            simp
          rw [heq] at hp7
          have HN7 : Hid (nul = (rs ++ [r]).any nothing) := by
            show _ = _
            rw [List.any_append, ← HN.out]
            simp [HNR.out]
          clear ho7 hk7 heq
          have hszl : szL (rs ++ [r]) = szL rs + sz r + 1 := szL_snoc rs r
          cases hd : isAt m j 124 with
          | true =>
            have hlt := isAt_lt hd
            rw [hd] at hp7
            have hpl7 : placeOf w7 pb = j + 1 := hp7.place
            have HP7 := hide hp7
            have HGR : Hid (goesR m f i g (rs ++ [r]) (j + 1) h true) := hide ⟨fun _ => ⟨k, by omega, by rw [HPG.out, if_pos hd]⟩, fun h => by cases h⟩
            clear hd hp7
            go_wp2
            go_roundw
            case rel => exact ⟨rs ++ [r], j + 1, h, nul, true, rfl, rfl, hlt, hjg, by rw [hszl]; have := HPp.out; omega, fun _ => by rw [hszl]; have := HPp.out; omega, by simp; omega, fun _ => by simp; omega, HO7, HP7, HK7, HN7, HGR⟩
            case measure => rw [hpl7, hpl]; simp [boolN]; omega
          | false =>
            rw [hd] at hp7
            have hpl7 : placeOf w7 pb = j := hp7.place
            have HP7 := hide hp7
            have HGR : Hid (goesR m f i g (rs ++ [r]) j h false) := hide ⟨fun h => (by cases h), fun _ => ⟨by simp, by rw [HPG.out, if_neg (by simp [hd])]⟩⟩
            clear hd hp7
            go_wp2
            go_roundw
            case rel => exact ⟨rs ++ [r], j, h, nul, false, rfl, rfl, hjp, hjg, by rw [hszl]; have := HPp.out; omega, fun h => (by cases h), by simp; omega, fun h => (by cases h), HO7, HP7, HK7, HN7, HGR⟩
            case measure => rw [hpl7, hpl]; simp [boolN]; omega
    | false =>
      obtain ⟨hne, hG⟩ := HG.out.2 rfl
      have HE : Hid (y = .ok (rowsOf rs .nil, i', g')) := by show _ = _; rw [HY.out] at hG; exact Option.some.inj hG
      have HNE := hide hne
      have hve := HVE.out
      subst hve
      have HKn := hide (nothing_rows rs hne)
      clear hG hne hbm hrm c2
      go_wp2_with fail
      go_loopw [34] (fun vi w2 => ∃ n : Nat, vi = .int .i64 n ∧ n ≤ rs.length ∧ Hid (w2.ownsRow w.heap.size 3 1 (.slice vb rs.length vc) rs.length (intsV (endsL rs (b + 1)))) ∧
          Hid (parserAt w2 (andRow F (.slice vb rs.length vc)) pb m i' (S ++ .fork (startsL rs (b + 1)) :: compW (fun j => if j < n then [p] else []) rs 0 (b + 1)) g') ∧ Hid (KeptX F pb w w2)) (fun vi _ => rs.length - (intOf vi).toNat)
      case atStart => exact ⟨0, rfl, Nat.zero_le _, HO, by simpa using HPr, HKr⟩
      case round =>
        obtain ⟨n, rfl, hn, HO2, HP2, HK2⟩ := hrel
        rename World => wr2
        by_cases hlt : n < rs.length
        · have hnl : (n : Int) < rs.length := by omega
          obtain ⟨x, hx⟩ : ∃ x, (endsL rs (b + 1))[n]? = some x := ⟨_, List.getElem?_eq_getElem (by rw [endsL_length]; exact hlt)⟩
          have hge := endsL_ge rs _ _ _ hx
          obtain ⟨gb, rfl⟩ : ∃ gb, vb = some ⟨gb, 0, none⟩ := by
            rcases HO2.out.2 with ⟨_, h0⟩ | ⟨gb, cp2, cur, h, _⟩
            · omega
            · simp at h; exact ⟨gb, h.1⟩
          have hce : wr2.cell? ⟨gb, n, none⟩ = some (.int .i64 (x : Int)) := own_cell HO2.out (by simp [intsV, hx])
          obtain ⟨_, _, ao2, cp2, hblk⟩ := HP2.out.cells
          have hl2 : (S ++ .fork (startsL rs (b + 1)) :: compW (fun j => if j < n then [p] else []) rs 0 (b + 1)).length = p := by
            rw [← HPp.out, List.length_append, List.length_cons, compW_length, HB.out]; omega
          rw [hl2] at hblk
          obtain ⟨c0, c1, c2, c3⟩ := four_cells hblk
          have hgt : (S ++ St.fork (startsL rs (b + 1)) :: compW (fun j => if j < n then [p] else []) rs 0 (b + 1))[x]? = some (.fork []) := by
            rw [List.getElem?_append_right (by rw [HB.out]; omega), HB.out, show x - b = (x - (b + 1)) + 1 from by omega, List.getElem?_cons_succ, compW_get _ rs 0 _ n x hx]
            simp
          have hst : (S ++ St.fork (startsL rs (b + 1)) :: compW (fun j => if j < n then [p] else []) rs 0 (b + 1)).set x (.fork ([] ++ [p])) = S ++ .fork (startsL rs (b + 1)) :: compW (fun j => if j < n + 1 then [p] else []) rs 0 (b + 1) := by
            rw [List.set_append_right _ _ (by rw [HB.out]; omega), HB.out, show x - b = (x - (b + 1)) + 1 from by omega, List.set_cons_succ, compW_set _ _ rs 0 _ n x hx]
            congr 2
            exact compW_congr rs _ _ (fun j h1 h2 => by
              by_cases e : j = n
              · subst e; simp
              · by_cases h3 : j < n
                · simp [e, h3, show j < n + 1 from by omega]
                · simp [e, h3, show ¬ j < n + 1 from by omega])
          have HST := hide hst
          have HGT := hide hgt
          have HL2 := hide hl2
          have hvp2 : (Value.slice (some ⟨gb, 0, none⟩) rs.length vc).ownBlock ≠ some pb := HHV.out
          clear hblk c0 c1 c3 hst hgt hx hl2
          go_wp2_with fail
          refine (way_any wr2 _ pb m i' g' x p _ [] HP2.out HGT.out (by simp) (by rw [HL2.out]; omega)).mono ?_
          rintro e w3 ⟨rfl, hk3, hp3⟩
          rw [HST.out] at hp3
          have HP3 := hide hp3
          have HK3 := hide (HK2.out.trans (hk3.less fun k hk => .inl hk))
          have HO3 : Hid (w3.ownsRow w.heap.size 3 1 (.slice (some ⟨gb, 0, none⟩) rs.length vc) rs.length (intsV (endsL rs (b + 1)))) := hide (own_keep HO2.out (fun z hz => hk3.block z (.inr hz) (fun e => hvp2 (e ▸ hz))))
          clear hp3 hk3
          go_wp2
          go_roundw
          case rel => exact ⟨n + 1, by go_num, by omega, HO3, HP3, HK3⟩
          case measure => simp [intOf]; omega
        · obtain rfl : n = rs.length := by omega
          have hfin : compW (fun j => if j < rs.length then [p] else []) rs 0 (b + 1) = comp (rowsOf rs .nil) (b + 1) p := by
            rw [← compW_comp]
            exact compW_congr rs _ _ (fun j h1 h2 => by rw [if_pos (by omega)])
          have hall : S ++ St.fork (startsL rs (b + 1)) :: compW (fun j => if j < rs.length then [p] else []) rs 0 (b + 1) = rowsSteps S (rowsOf rs .nil) := by
            rw [hfin, rowsSteps, HB.out, startsL_starts, ← szL_sz, HPp.out]
          have hp3 := HP2.out
          rw [hall] at hp3
          have HP3 := hide (hp3.less (F' := F) (fun k hk => .inl hk))
          clear hp3 hall hfin
          go_wp2
          go_ret
          rw [HE.out]
          exact ⟨HK2.out, by rw [HKn.out, ← HN.out]; rfl, HP3.out⟩

/-- SO ALL ROWS ARE LAID OUT. -/
theorem rows_ok {m : List UInt8} (hm : m.length ≤ 10000) (f : Nat) : RowsOK m f := by
  induction f using Nat.strongRecOn with
  | _ f ih => exact rows_any hm ih

end Go.Proofs.YtndpjdmfkhjiiaaGreatDoor

/- The parser of masks: a whole mask; what gives up is caught; Check. -/
set_option linter.unusedVariables false
set_option linter.unusedSimpArgs false
namespace Go.Proofs.YtndpjdmfkhjiiaaGreatDoor
open Go.RowKit
attribute [local go_sem] bs_size bs_toList bs_append bs_get bs_extract

/-- What a whole mask does. -/
def wholePost (F : Nat → Prop) (pb : Nat) (m : List UInt8) (y : Except (Nat × Nat) (Tr × Nat)) (w : World) (e : Ending) (w' : World) : Prop :=
  KeptX F pb w w' ∧ match y with
    | .error x => e = faulted x.1 x.2
    | .ok x => e = .returned (.tuple #[]) ∧ ∃ j, parserAt w' F pb m j (layC x.1) x.2

set_option maxRecDepth 20000 in
set_option maxHeartbeats 4000000 in
theorem whole_any {m : List UInt8} {f : Nat} (w : World) (F : Nat → Prop) (pb : Nat) (y : Except (Nat × Nat) (Tr × Nat)) (hp : parserAt w F pb m 0 [] 0) (hml : m.length ≤ 9223372036854775807) (hy : pMask m f = some y) :
    Calls Tryz.prog 100 #[.pointer (some ⟨pb, 0, none⟩)] w (wholePost F pb m y w) := by
  have HP := hide hp
  have HY := hide hy
  obtain ⟨_, _, ao, cp, hblk⟩ := hp.cells
  obtain ⟨c0, c1, c2, c3⟩ := four_cells hblk
  clear hp hy hblk c1 c2 c3
  go_enter Tryz.func100, Tryz.ntmps100
  by_cases h60 : 60 < m.length
  · have h60' : (60 : Int) < m.length := by omega
    have HE : Hid (y = .error (2, 0)) := by show _ = _; have h := HY.out; unfold pMask at h; rw [if_pos h60] at h; exact (Option.some.inj h).symm
    go_wp2_with fail
    refine (giveUp_any w F pb m 0 0 [] 2 HP.out).mono ?_
    rintro e w1 ⟨rfl, rfl⟩
    rw [HE.out]
    exact ⟨rfl, .refl _ _ _, rfl⟩
  · have h60' : ¬ (60 : Int) < m.length := by omega
    have HM : Hid (pMask m f = bindO (pM m f true 0 0) fun x => if x.2.1 < m.length then some (.error (1, x.2.1)) else some (.ok (x.1, x.2.2))) := by show _ = _; unfold pMask; rw [if_neg h60]
    have hm : m.length ≤ 60 := by omega
    clear h60
    go_wp2_with fail
    clear c0
    have h := HY.out
    rw [HM.out] at h
    rcases bindO_eq h with ⟨x, hx, e⟩ | ⟨x, hx, h⟩
    · subst e
      refine (rows_ok (by omega) f w F pb 0 0 [] (.error x) HP.out (by omega) (by omega) (by simp; omega) hx).mono ?_
      rintro e w1 ⟨hk, rfl⟩
      exact ⟨rfl, hk, rfl⟩
    · have HX := hide hx
      have hjo := (pM_ok hx (by omega)).2
      have hjs := pM_sz hx (by omega)
      refine (rows_ok (by omega) f w F pb 0 0 [] (.ok x) HP.out (by omega) (by omega) (by simp; omega) hx).mono ?_
      clear hx
      obtain ⟨T, j, g⟩ := x
      rintro e w1 ⟨hk, he⟩
      simp only at he h hjo hjs
      simp at hjs
      obtain ⟨rfl, hp1⟩ := he
      have HK := hide hk
      have HP1 : Hid (∀ n, parserAt (w1.drewN n) F pb m j (rowsSteps [] T) g) := hide fun n => hp1
      obtain ⟨_, _, ao1, cp1, hblk⟩ := hp1.cells
      obtain ⟨c0, c1, c2, c3⟩ := four_cells hblk
      clear hk hp1 hblk c2 c3
      by_cases hlt : j < m.length
      · rw [if_pos hlt] at h
        have HE : Hid (y = .error (1, j)) := (Option.some.inj h).symm
        have hlt2 : (j : Int) < m.length := by omega
        clear h
        go_wp2
        go_quiet (fail)
        go_wp2_with fail
        refine (giveUp_any _ F pb m j g _ 1 (HP1.out nq)).mono ?_
        rintro e w2 ⟨rfl, rfl⟩
        exact ⟨rfl, HK.out.drawN, by rw [HE.out]; rfl⟩
      · rw [if_neg hlt] at h
        have HE : Hid (y = .ok (T, g)) := (Option.some.inj h).symm
        have hlt2 : ¬ (j : Int) < m.length := by omega
        clear h
        go_wp2
        go_quiet (fail)
        go_wp2_with fail
        refine (add_any _ F pb m j g _ ⟨.fin, 0, 0, 0, 0, 0, .slice none 0 0⟩ (HP1.out nq) rfl (fun w => ⟨World.ownsRow_nil _ _ _ _, trivial⟩) (by rw [rowsSteps_length]; simp; omega)).mono ?_
        rintro e w2 ⟨rfl, hk2, hp2⟩
        have HP2 : Hid (parserAt w2 F pb m j (layC T) g) := by
          have e : layC T = rowsSteps [] T ++ [.fin] := by simp [layC, rowsSteps]
          rw [e]
          exact hide hp2
        have HK2 : Hid (KeptX F pb w w2) := hide (HK.out.trans ⟨hk2.os, hk2.tape, hk2.output, hk2.size, hk2.block⟩)
        clear hp2 hk2
        go_wp2
        go_end0
        rw [HE.out]
        exact ⟨HK2.out, rfl, j, HP2.out⟩

theorem cells_two {w : World} {b : Nat} {x y : Value} {t : TypeId} (h : w.heap[b]? = some (.cells #[x, y] t (0, 0))) : w.cell? ⟨b, 0, none⟩ = some x ∧ w.cell? ⟨b, 1, none⟩ = some y := by simp [World.cell?, h]
theorem assert_fault (v : Value) (w : World) : (Instr.typeAssert (.iface 65 v) 20 65 true).run Tryz.prog w = .ok (.tuple #[v, .bool true]) w := by kernel_rfl

set_option maxRecDepth 20000 in
set_option maxHeartbeats 1000000 in
theorem catch_panicking (fb : Nat) (x0 x1 er at' : Int) (older : List PanicEntry) (w : World) (hc : w.heap[fb]? = some (.cells #[.int .i64 x0, .int .i64 x1] 65 (0, 0))) :
    CallsD Tryz.prog 99 #[.pointer (some ⟨fb, 0, none⟩)] (.panicking ({ v := .iface 65 (.agg #[.int .i64 er, .int .i64 at']), recovered := false } :: older)) w fun e u' w' =>
      e = .returned (.tuple #[]) ∧ u' = .panicking ({ v := .iface 65 (.agg #[.int .i64 er, .int .i64 at']), recovered := true } :: older) ∧ w'.heap[fb]? = some (.cells #[.int .i64 er, .int .i64 at'] 65 (0, 0)) ∧ Kept2 fb fb w w' := by
  refine callsD_of_wpS Tryz.func99 rfl fun c₀ cs hu => ?_
  simp only [Tryz.ntmps99, List.size_toArray, List.length_cons, List.length_nil, Nat.reduceAdd, Nat.reduceSub, Array.replicate_succ,
     Array.replicate_zero, List.push_toArray, List.append_toArray, List.nil_append, List.cons_append]
  apply wpS_seq
  apply wpS_region
  simp [wpOpsS, go_sem, recoverD, hu, Exit.thenS]
  apply wpS_seq
  apply wpS_region
  simp [wpOpsS, go_sem, Exit.thenS]
  refine wpS_cond (t := true) (by simp [Act.eval, Array.replicate]) ?_
  simp only [if_true]
  refine wpS_of_wp ?_
  have has := assert_fault
  have hnot : ∀ (x : Bool) (w : World), (Op.unary .not (.bool x)).run Tryz.prog w = .ok (.bool (!x)) w := fun _ _ => rfl
  have hlt := lt_of_block hc
  obtain ⟨Z, HZ⟩ : ∃ Z, Hid (Z = w.alloc (.cells #[.int .i64 0, .int .i64 0] 65)) := ⟨_, hide rfl⟩
  have gZ : Grow w Z := by rw [HZ.out]; exact (Grow.refl _).alloc _
  have hZb : Z.heap[w.heap.size]? = some (.cells #[.int .i64 0, .int .i64 0] 65 (0, 0)) := by rw [HZ.out]; exact heap_alloc_new _ _
  have zf0 := not_frozen (k := 0) hZb
  have zf1 := not_frozen (k := 1) hZb
  obtain ⟨zc0, zc1⟩ := cells_two hZb
  obtain ⟨Z1, HZ1⟩ : ∃ Z1, Hid (Z1 = (Z.setCell ⟨w.heap.size, 0, none⟩ (.int .i64 er)).setCell ⟨w.heap.size, 1, none⟩ (.int .i64 at')) := ⟨_, hide rfl⟩
  have hZ1b : Z1.heap[w.heap.size]? = some (.cells #[.int .i64 er, .int .i64 at'] 65 (0, 0)) := by rw [HZ1.out, set_blk (set_blk hZb _)]; simp
  obtain ⟨yc0, yc1⟩ := cells_two hZ1b
  have hk1 : ∀ k, k ≠ w.heap.size → Z1.heap[k]? = Z.heap[k]? := fun k hk => by rw [HZ1.out, Below.heap_setCell _ _ _ _ hk, Below.heap_setCell _ _ _ _ hk]
  have hZ1f : Z1.heap[fb]? = some (.cells #[.int .i64 x0, .int .i64 x1] 65 (0, 0)) := by rw [hk1 fb (by omega)]; exact gZ.get hc
  have ff0 := not_frozen (k := 0) hZ1f
  have ff1 := not_frozen (k := 1) hZ1f
  obtain ⟨fc0, fc1⟩ := cells_two hZ1f
  obtain ⟨Z2, HZ2⟩ : ∃ Z2, Hid (Z2 = (Z1.setCell ⟨fb, 0, none⟩ (.int .i64 er)).setCell ⟨fb, 1, none⟩ (.int .i64 at')) := ⟨_, hide rfl⟩
  have hZ2b : Z2.heap[fb]? = some (.cells #[.int .i64 er, .int .i64 at'] 65 (0, 0)) := by rw [HZ2.out, set_blk (set_blk hZ1f _)]; simp
  have hK : Kept2 fb fb w Z2 := by
    have h2 : Z2.heap.size = Z.heap.size := by rw [HZ2.out, HZ1.out]; simp [World.setCell]
    refine ⟨by rw [HZ2.out, HZ1.out]; exact gZ.os, by rw [HZ2.out, HZ1.out]; exact gZ.tape, by rw [HZ2.out, HZ1.out]; exact gZ.output, by rw [h2]; exact gZ.size, fun k hk hn _ => ?_⟩
    rw [HZ2.out, Below.heap_setCell _ _ _ _ hn, Below.heap_setCell _ _ _ _ hn, hk1 k (by omega)]
    exact gZ.block k hk
  have HK := hide hK
  have HB2 := hide hZ2b
  have eZ := HZ.out.symm
  have eZ1 := HZ1.out.symm
  have eZ2 := HZ2.out.symm
  clear hK hZ2b hZb hZ1b hZ1f hc hk1
  go_wp2
  clear eZ eZ1 eZ2 zf0 zf1 zc0 zc1 yc0 yc1 ff0 ff1 fc0 fc1 has hnot
  cases c₀
  have h1 := HB2.out
  have h2 := HK.out
  clear HB2 HK HZ HZ1 HZ2
  simp_all [bodyPostS, results, Tryz.results99]

set_option maxRecDepth 20000 in
set_option maxHeartbeats 1000000 in
theorem catch_idle (p : Addr) (w : World) :
    CallsD Tryz.prog 99 #[.pointer (some p)] .returning w fun e u' w' => e = .returned (.tuple #[]) ∧ u' = .returning ∧ w' = w := by
  refine callsD_of_wpS Tryz.func99 rfl fun c₀ cs hu => ?_
  simp only [Tryz.ntmps99, List.size_toArray, List.length_cons, List.length_nil, Nat.reduceAdd, Nat.reduceSub, Array.replicate_succ,
     Array.replicate_zero, List.push_toArray, List.append_toArray, List.nil_append, List.cons_append]
  apply wpS_seq
  apply wpS_region
  simp [wpOpsS, go_sem, recoverD, hu, Exit.thenS]
  apply wpS_seq
  apply wpS_region
  simp [wpOpsS, go_sem, Exit.thenS]
  refine wpS_cond (t := false) (by simp [Act.eval, Array.replicate]) ?_
  simp only [Bool.false_eq_true, if_false]
  refine wpS_of_wp (wp_skip ?_)
  cases c₀
  simp_all [bodyPostS, results, Tryz.results99]

/-- Steps that were laid out, in a row. -/
def stepsIn (w : World) (sv : Value) (S : List St) : Prop :=
  ∃ rs : List Raw, w.ownsRow 0 150 7 sv rs.length (rawCells rs) ∧ (∀ (j : Nat) (r : Raw), rs[j]? = some r → rawOk w 0 r) ∧ rs.map (·.st) = S
theorem stepsIn.keep {w w' : World} {sv : Value} {S : List St} (h : stepsIn w sv S) (g : Grow w w') : stepsIn w' sv S := by
  obtain ⟨rs, h1, h2, h3⟩ := h
  exact ⟨rs, own_grow h1 g, fun j r hr => (h2 j r hr).keep fun b hb => g.block b ((h2 j r hr).1.lt b hb).2, h3⟩

/-- What parse answers. -/
def parseAns (m : List UInt8) (y : Except (Nat × Nat) (Tr × Nat)) (e : Ending) (w' : World) : Prop := match y with
  | .error x => e = .returned (.tuple #[.agg #[.slice none 0 0, .int .i64 0], .agg #[.int .i64 x.1, .int .i64 x.2]])
  | .ok x => ∃ sv, e = .returned (.tuple #[.agg #[sv, .int .i64 x.2], .agg #[.int .i64 0, .int .i64 0]]) ∧ stepsIn w' sv (layC x.1)

set_option maxRecDepth 20000 in
set_option maxHeartbeats 4000000 in
theorem parse_any {m : List UInt8} {f : Nat} (w : World) (y : Except (Nat × Nat) (Tr × Nat)) (hml : m.length ≤ 9223372036854775807) (hy : pMask m f = some y) :
    Calls Tryz.prog 56 #[.string (bs m)] w fun e w' => Grow w w' ∧ parseAns m y e w' := by
  have HY := hide hy
  clear hy
  have hmf : ∀ (fn : Fn) (first cap : Array Value) (w : World), (Instr.makeFunc fn first cap).run Tryz.prog w = .ok (.func fn first cap) w := fun _ _ _ _ => rfl
  obtain ⟨n, hn⟩ : ∃ n, w.heap.size = n := ⟨_, rfl⟩
  obtain ⟨A, HA⟩ : ∃ A, Hid (A = w.alloc (.cells #[.slice none 0 0, .int .i64 0] 96)) := ⟨_, hide rfl⟩
  have gA : Grow w A := by rw [HA.out]; exact (Grow.refl _).alloc _
  have hAs : A.heap.size = n + 1 := by rw [HA.out, ← hn]; simp
  have hA0 : A.heap[n]? = some (.cells #[.slice none 0 0, .int .i64 0] 96 (0, 0)) := by rw [HA.out, ← hn]; exact heap_alloc_new _ _
  obtain ⟨C, HC⟩ : ∃ C, Hid (C = A.alloc (.cells #[.int .i64 0, .int .i64 0] 65)) := ⟨_, hide rfl⟩
  have gC : Grow A C := by rw [HC.out]; exact (Grow.refl _).alloc _
  have hCs : C.heap.size = n + 2 := by rw [HC.out]; simp [hAs]
  have hC0 := gC.get hA0
  have hC1 : C.heap[n + 1]? = some (.cells #[.int .i64 0, .int .i64 0] 65 (0, 0)) := by rw [HC.out, ← hAs]; exact heap_alloc_new _ _
  obtain ⟨D, HD⟩ : ∃ D, Hid (D = C.alloc (.cells #[.string (bs m), .int .i64 0, .slice none 0 0, .int .i64 0] 143)) := ⟨_, hide rfl⟩
  have gD : Grow C D := by rw [HD.out]; exact (Grow.refl _).alloc _
  have hDs : D.heap.size = n + 3 := by rw [HD.out]; simp [hCs]
  have hD2 : D.heap[n + 2]? = some (.cells #[.string (bs m), .int .i64 0, .slice none 0 0, .int .i64 0] 143 (0, 0)) := by rw [HD.out, ← hCs]; exact heap_alloc_new _ _
  have eA := HA.out.symm
  have eC := HC.out.symm
  go_enter_defers Tryz.func56, Tryz.ntmps56
  go_wp2_with fail
  rw [show C.alloc (.cells #[.string (bs m), .int .i64 0, .slice none 0 0, .int .i64 0] 143) = D from HD.out.symm]
  have hp : parserAt D (fun k => k < n + 2) (n + 2) m 0 [] 0 := ⟨.slice none 0 0, [], ⟨fun k hk => by omega, hD2, World.ownsRow_nil _ _ _ _, fun j r h => (by simp at h), fun j k r r' _ h => (by simp at h), fun b h => (by cases h), fun j r b h => by simp at h⟩, rfl⟩
  have hW0 : D.heap[n]? = some (.cells #[.slice none 0 0, .int .i64 0] 96 (0, 0)) := gD.get hC0
  have hW1 : D.heap[n + 1]? = some (.cells #[.int .i64 0, .int .i64 0] 65 (0, 0)) := gD.get hC1
  have gwD : Grow w D := (gA.trans gC).trans gD
  have GWD := hide gwD
  refine (whole_any D (fun k => k < n + 2) (n + 2) y hp hml HY.out).mono ?_
  rintro e w3 ⟨hk, he⟩
  have h0 : w3.heap[n]? = some (.cells #[.slice none 0 0, .int .i64 0] 96 (0, 0)) := (hk.block n (by omega) (by omega)).trans hW0
  have h1 : w3.heap[n + 1]? = some (.cells #[.int .i64 0, .int .i64 0] 65 (0, 0)) := (hk.block (n + 1) (by omega) (by omega)).trans hW1
  have hs3 : n + 3 ≤ w3.heap.size := by rw [← hDs]; exact hk.size
  have hout : ∀ w4 : World, w4.os = w3.os → w4.tape = w3.tape → w4.output = w3.output → w3.heap.size ≤ w4.heap.size → (∀ k, k < n → w4.heap[k]? = w3.heap[k]?) → Grow w w4 := fun w4 a1 a2 a3 a4 a5 =>
    ⟨a1.trans (hk.os.trans gwD.os), a2.trans (hk.tape.trans gwD.tape), a3.trans (hk.output.trans gwD.output), by omega, fun k hkk => (a5 k (by omega)).trans ((hk.block k (by omega) (by omega)).trans (gwD.block k hkk))⟩
  have HOUT := hide hout
  clear hk hout gwD gA gC gD hA0 hC0 hC1 hD2 hW0 hW1 hp eA eC HA HC HD GWD
  rcases hyy : y with x | x
  · rw [hyy] at he
    simp only at he
    subst he
    have HYY := hide hyy
    clear hyy
    obtain ⟨er, at'⟩ := x
    refine leaves_cons (f := 99) (args := #[.pointer (some ⟨n + 1, 0, none⟩)]) (by simp) (by simp [go_sem]) ?_
    refine (catch_panicking (n + 1) 0 0 er at' [] w3 h1).mono ?_
    rintro e u' w'' ⟨rfl, rfl, hf, hk4⟩
    have hp4 : w''.heap[n]? = some (.cells #[.slice none 0 0, .int .i64 0] 96 (0, 0)) := (hk4.block n (by omega) (by omega) (by omega)).trans h0
    obtain ⟨p0, p1⟩ := cells_two hp4
    obtain ⟨f0, f1⟩ := cells_two hf
    simp [Leaves, settle, results, Tryz.results56, go_sem, p0, p1, f0, f1]
    rw [HYY.out]
    exact ⟨HOUT.out w'' hk4.os hk4.tape hk4.output hk4.size (fun k hk => hk4.block k (by omega) (by omega) (by omega)), rfl⟩
  · rw [hyy] at he
    simp only at he
    obtain ⟨rfl, jj, sv, rs, ⟨q1, q2, q3, q4, q5, q6⟩, hS⟩ := he
    obtain ⟨T, g⟩ := x
    have HYY := hide hyy
    clear hyy
    obtain ⟨ao, cp, rfl⟩ := own_shape q3
    obtain ⟨c0, c1, c2, c3⟩ := four_cells q2
    obtain ⟨p0, p1⟩ := cells_two h0
    have pf0 := not_frozen (k := 0) h0
    have pf1 := not_frozen (k := 1) h0
    obtain ⟨W4, HW4⟩ : ∃ W4, Hid (W4 = (w3.setCell ⟨n, 0, none⟩ (.slice ao rs.length cp)).setCell ⟨n, 1, none⟩ (.int .i64 (g : Int))) := ⟨_, hide rfl⟩
    have k4 : ∀ k, k ≠ n → W4.heap[k]? = w3.heap[k]? := fun k hk => by rw [HW4.out, Below.heap_setCell _ _ _ _ hk, Below.heap_setCell _ _ _ _ hk]
    have hW4n : W4.heap[n]? = some (.cells #[.slice ao rs.length cp, .int .i64 (g : Int)] 96 (0, 0)) := by rw [HW4.out, set_blk (set_blk h0 _)]; simp
    have hW4f : W4.heap[n + 1]? = some (.cells #[.int .i64 0, .int .i64 0] 65 (0, 0)) := (k4 (n + 1) (by omega)).trans h1
    obtain ⟨f0, f1⟩ := cells_two hW4f
    have ff0 := not_frozen (k := 0) hW4f
    have ff1 := not_frozen (k := 1) hW4f
    obtain ⟨W5, HW5⟩ : ∃ W5, Hid (W5 = (W4.setCell ⟨n + 1, 0, none⟩ (.int .i64 0)).setCell ⟨n + 1, 1, none⟩ (.int .i64 0)) := ⟨_, hide rfl⟩
    have k5 : ∀ k, k ≠ n + 1 → W5.heap[k]? = W4.heap[k]? := fun k hk => by rw [HW5.out, Below.heap_setCell _ _ _ _ hk, Below.heap_setCell _ _ _ _ hk]
    have hW5n := (k5 n (by omega)).trans hW4n
    have hW5f : W5.heap[n + 1]? = some (.cells #[.int .i64 0, .int .i64 0] 65 (0, 0)) := by rw [HW5.out, set_blk (set_blk hW4f _)]; simp
    have hsz : W5.heap.size = w3.heap.size := by rw [HW5.out, HW4.out]; simp [World.setCell]
    have hG : Grow w W5 := HOUT.out W5 (by rw [HW5.out, HW4.out]; rfl) (by rw [HW5.out, HW4.out]; rfl) (by rw [HW5.out, HW4.out]; rfl) (by omega) (fun k hk => (k5 k (by omega)).trans (k4 k (by omega)))
    have hst : stepsIn W5 (.slice ao rs.length cp) (layC T) := by
      refine ⟨rs, own_keep q3 (fun b hb => ?_), fun j r hr => (q4 j r hr).keep fun b hb => ?_, hS⟩
      · have hne1 : b ≠ n := by rintro rfl; exact own_apart q3 h0 (by decide) hb
        have hne2 : b ≠ n + 1 := by rintro rfl; exact own_apart q3 h1 (by decide) hb
        rw [k5 b hne2, k4 b hne1]
      · have hne1 : b ≠ n := by rintro rfl; exact (q4 j r hr).apart h0 (by decide) hb
        have hne2 : b ≠ n + 1 := by rintro rfl; exact (q4 j r hr).apart h1 (by decide) hb
        rw [k5 b hne2, k4 b hne1]
    obtain ⟨r0, r1⟩ := cells_two hW5n
    obtain ⟨s0, s1⟩ := cells_two hW5f
    have HG := hide hG
    have HST := hide hst
    have R0 := hide r0
    have R1 := hide r1
    have S0 := hide s0
    have S1 := hide s1
    have eW4 := HW4.out.symm
    have eW5 := HW5.out.symm
    clear q2 q3 q4 q5 q6 h0 h1 c0 c1 hW4n hW4f hW5n hW5f k4 k5 hG hst r0 r1 s0 s1 hS
    go_wp2
    clear eW4 eW5 p0 p1 f0 f1
    refine leaves_cons (f := 99) (args := #[.pointer (some ⟨n + 1, 0, none⟩)]) (by simp) (by simp [go_sem]) ?_
    refine (catch_idle ⟨n + 1, 0, none⟩ W5).mono ?_
    rintro e u' w'' ⟨rfl, rfl, rfl⟩
    have r0 := R0.out
    have r1 := R1.out
    have s0 := S0.out
    have s1 := S1.out
    simp [Leaves, settle, results, Tryz.results56, go_sem, r0, r1, s0, s1]
    rw [HYY.out]
    exact ⟨HG.out, _, rfl, HST.out⟩

end Go.Proofs.YtndpjdmfkhjiiaaGreatDoor
