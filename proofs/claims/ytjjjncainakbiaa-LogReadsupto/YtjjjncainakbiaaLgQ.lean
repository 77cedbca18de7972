/- AppendOf of the document's own package. -/
import Derived.Test.YtjjjncainakbiaaProg
import Derived.Test.YtjjjncainakbiaaKit
import Derived.Test.YtjjjncainakbiaaLgP
import Derived.Test.YtjjjncainakbiaaLgR
import Derived.Test.YtjjjncainakbiaaLgX
import Derived.Test.YtjjjncainakbiaaLgY
import Derived.Test.YtjjjncainakbiaaReg
set_option linter.unusedVariables false
set_option linter.unusedSimpArgs false
namespace Go.Proofs.Ytjjjncainakbiaa.Lg
open Go.RowKit
attribute [local go_sem] bs_size bs_toList bs_append bs_get bs_extract

/-- What the document's own package answers: the log, too, is made where it is too long. -/
theorem room_add (at' n : Nat) (h : n = at' + (padL at').length) : 128 - n % 128 = room at' + 7 := by
  subst h
  have := (pad_le at').2
  unfold room
  omega

theorem lgCutTo_i (a : Int) (s : List UInt8) (n : Nat) (w : World) (hs : s.length ≤ 9223372036854775807) (hn : n ≤ 9223372036854775807) (ha : a = n) :
    Calls Try.prog 24 #[.string (bs s), .int .i64 a] w fun e w' => e = .returned (.string (bs (s.take n))) ∧ w' = w := by
  subst ha; exact lgCutTo_any s n w hs hn
theorem rPartOf_i (a : Int) (k : Nat) (s : List UInt8) (w : World) (hk : k < 256) (hs : s.length ≤ 100000) (ha : a = k) :
    Calls Try.prog 25 #[.int .i64 a, .string (bs s)] w fun e w' => e = .returned (.string (bs (partB k s))) ∧ Grow w w' := by
  subst ha; exact rPartOf_any k s w hk hs

set_option maxRecDepth 20000 in
set_option maxHeartbeats 2000000 in
theorem rAppendOf_any (l s : List UInt8) (w : World) (hl : l.length ≤ 140737488355328) (hs : s.length ≤ 140737488355328) :
    Calls Try.prog 12 #[.string (bs l), .string (bs s)] w fun e w' => e = .returned (.tuple #[.string (bs (appendR l s).1), .int .i64 (appendR l s).2]) ∧ Grow w w' := by
  go_enter Try.func12, Try.ntmps12
  by_cases hb : 20000 < s.length
  · have hb' : (20000 : Int) < s.length := by omega
    have HA := hide (show appendR l s = ([], 2) from by unfold appendR; rw [if_pos hb])
    clear hb
    go_wp2
    go_ret2
    exact ⟨by rw [HA.out]; rfl, Grow.refl _⟩
  · have hb' : ¬ (20000 : Int) < s.length := by omega
    have hs2 : s.length ≤ 20000 := by omega
    have HA : Hid (appendR l s = if 1000000 < l.length + (appB l.length s).length then ([], 2) else (l ++ appB l.length s, 0)) := hide (by unfold appendR; rw [if_neg hb])
    have HB := hide (appB_length l.length s)
    clear hb
    go_wp2_with fail
    go_loopw [0, 1, 6] (fun x y b wr => ∃ (x' y' : List UInt8) (fin begun : Bool), x = .string (bs x') ∧ y = .string (bs y') ∧ b = .bool begun ∧ y'.length ≤ s.length ∧ Hid (Grow w wr) ∧ x'.length + 2 * y'.length ≤ l.length + 50000 + (if fin then 40 else if begun then 20 else 0) ∧ Hid (fin = true → begun = true ∧ y' = [] ∧ l ++ appB l.length s = x') ∧ Hid (fin = false → (begun = true → y' ≠ [] ∧ x'.length % 128 = 0) ∧ l ++ appB l.length s = x' ++ contB (!begun) x'.length y')) (fun x y b _ => 2 * (match y with | .string c => c.size | _ => 0) + (match b with | .bool true => 0 | _ => 1))
    case atStart => exact ⟨l, s, false, false, rfl, rfl, rfl, by omega, hide (Grow.refl _), by simp; omega, hide (fun h => by cases h), hide (fun _ => ⟨(fun h => by cases h), rfl⟩)⟩
    case round =>
      obtain ⟨x', y', fin, begun, rfl, rfl, rfl, hy, HG, hlen, H1, H2⟩ := hrel
      rename World => wr
      have hlen2 : x'.length ≤ 140737488455328 := by cases fin <;> cases begun <;> simp at hlen <;> omega
      cases fin with
      | true =>
        obtain ⟨rfl, rfl, h3⟩ := H1.out rfl
        have h4 : x'.length = l.length + (appB l.length s).length := by rw [← h3, List.length_append]
        rw [← h4, h3] at HA
        have hsz0 : (bs ([] : List UInt8)) = { data := #[] } := rfl
        by_cases hbig : 1000000 < x'.length
        · have hbig' : (1000000 : Int) < x'.length := by omega
          have HQ := hide (HA.out.trans (if_pos hbig))
          have hg2 := HG.out
          clear h3 h4 HA hbig
          go_wp2
          go_ret2
          exact ⟨by rw [HQ.out]; rfl, hg2⟩
        · have hbig' : ¬ (1000000 : Int) < x'.length := by omega
          have HQ := hide (HA.out.trans (if_neg hbig))
          have hg2 := HG.out
          clear h3 h4 HA hbig
          go_wp2
          go_ret2
          exact ⟨by rw [HQ.out]; rfl, hg2⟩
      | false =>
        obtain ⟨h3, h4⟩ := H2.out rfl
        have HF : Hid ((!begun) = false → x'.length % 128 = 0) := hide (fun h => (h3 (by simpa using h)).2)
        have HE := hide h4
        cases begun with
        | false =>
          clear h3 h4
          go_wp2_with fail
          refine (rNoughts_any x'.length wr (by omega)).mono ?_
          rintro e w1 ⟨rfl, hg1⟩
          have HG1 : Hid (Grow w w1) := hide (HG.out.trans hg1)
          clear hg1
          have hpl := (pad_le x'.length).1
          obtain ⟨R, hR⟩ : ∃ R, R = room x'.length := ⟨_, rfl⟩
          have hrm : 128 - (x'.length + (padL x'.length).length) % 128 = R + 7 := by rw [hR]; exact room_add _ _ rfl
          have hR121 : R ≤ 121 := by rw [hR]; exact room_le _
          have HR := hide hR
          clear hR
          have hrmI : (128 : Int) - ((x'.length : Int) + ((padL x'.length).length : Int)) % 128 - 7 = R := by omega
          obtain ⟨P, HPd⟩ : ∃ P, Hid (P = padL x'.length) := ⟨_, hide rfl⟩
          rw [← HPd.out] at hpl hrm hrmI ⊢
          go_wp2_with fail
          refine (lgCutTo_any y' R _ (by omega) (by omega)).mono ?_
          rintro e w2 ⟨rfl, rfl⟩
          by_cases hfit : (y').length ≤ R
          · have HT := hide (List.take_of_length_le hfit)
            have HD := hide (show (y').drop (y').length = [] from List.drop_length)
            have HL := hide (contB_last true x'.length (y') HF.out (by rw [← HR.out]; exact hfit))
            rw [HT.out]
            have hsz0 : (bs ([] : List UInt8)) = { data := #[] } := rfl
            have hpb : (partB 1 (y')).length = 7 + (y').length := partB_length _ _
            go_wp2_with fail
            refine (rPartOf_i _ 1 (y') _ (by decide) (by omega) rfl).mono ?_
            rintro e w3 ⟨rfl, hg3⟩
            have HG3 : Hid (Grow w w3) := hide (HG1.out.trans hg3)
            clear hg3
            go_wp2_with fail
            go_roundw
            case rel =>
              refine ⟨x' ++ P ++ partB 1 (y'), [], true, true, by simp only [List.append_assoc], rfl, rfl, by simp, HG3, ?_, hide (fun _ => ⟨rfl, rfl, ?_⟩), hide (fun h => by cases h)⟩
              · rw [List.length_append, List.length_append, hpb]
                simp at hlen hfit ⊢
                omega
              · rw [HE.out]
                refine (congrArg (x' ++ ·) HL.out).trans ?_
                rw [HPd.out, List.append_assoc]
                rfl
            case measure =>
              simp [bs_size]
          · skip
            have hRl : R < (y').length := by omega
            have HR0 : Hid (True) := hide (trivial)
            have HT : Hid (((y').take R).length = R) := hide (by rw [List.length_take]; omega)
            have HL := hide (contB_more true x'.length (y') HF.out (by rw [← HR.out]; exact hfit))
            have HN := hide (room_next x'.length)
            rw [← HR.out, ← HPd.out] at HL HN
            obtain ⟨T, HTd⟩ : ∃ T, Hid (T = (y').take R) := ⟨_, hide rfl⟩
            obtain ⟨D, HDd⟩ : ∃ D, Hid (D = (y').drop R) := ⟨_, hide rfl⟩
            have hDl : D.length = (y').length - R := by rw [HDd.out, List.length_drop]
            rw [← HTd.out] at HT
            rw [← HTd.out, ← HDd.out] at HL
            rw [← HTd.out]
            have hTl : T.length = R := HT.out
            have hDne : D ≠ [] := fun h => by rw [h] at hDl; simp at hDl hRl; omega
            have hD0 : ¬ (bs D = { data := #[] }) := fun h => hDne (bs_inj (b := []) h)
            have hD1 : ¬ (bs D = ByteArray.empty) := hD0
            have hDe : D.isEmpty = false := by simpa using hDne
            have hcut : ∀ (m : Nat), m = (y').length - R → List.take m (List.drop R (y')) = D := fun m hm => by rw [hm, HDd.out, List.take_of_length_le (by rw [List.length_drop]; exact Nat.le_refl _)]
            have hpb : (partB 2 T).length = 7 + R := by rw [partB_length, hTl]
            go_wp2_with fail
            refine (rPartOf_i _ 2 T _ (by decide) (by omega) rfl).mono ?_
            rintro e w3 ⟨rfl, hg3⟩
            have HG3 : Hid (Grow w w3) := hide (HG1.out.trans hg3)
            clear hg3
            have hN := HN.out
            go_wp2_with fail
            go_roundw
            case rel =>
              have hl3 : (x' ++ P ++ partB 2 T).length = x'.length + P.length + 7 + R := by rw [List.length_append, List.length_append, hpb]; omega
              refine ⟨x' ++ P ++ partB 2 T, D, false, true, by simp only [List.append_assoc], rfl, rfl, by rw [hDl]; omega, HG3, ?_, hide (fun h => by cases h), hide (fun _ => ⟨fun _ => ⟨hDne, ?_⟩, ?_⟩)⟩
              · rw [hl3, hDl]
                have hr0 := HR0.out
                simp at hlen hRl ⊢
                omega
              · rw [hl3]; exact hN
              · rw [HE.out]
                refine (congrArg (x' ++ ·) HL.out).trans ?_
                simp [contB, List.append_assoc]
            case measure =>
              have h2 : (bs D).size = (y').length - R := by rw [bs_size, hDl]
              have h3 : (bs (y')).size = (y').length := bs_size _
              have hr0 := HR0.out
              simp only [h2, h3]
              omega
        | true =>
          have hne := (h3 rfl).1
          obtain ⟨c, t, rfl⟩ : ∃ c t, y' = c :: t := by cases y' with | nil => exact absurd rfl hne | cons c t => exact ⟨c, t, rfl⟩
          clear h3 h4 hne
          have htl : t.length + 1 ≤ s.length := by simpa using hy
          go_wp2_with fail
          refine (rNoughts_any x'.length wr (by omega)).mono ?_
          rintro e w1 ⟨rfl, hg1⟩
          have HG1 : Hid (Grow w w1) := hide (HG.out.trans hg1)
          clear hg1
          have hpl := (pad_le x'.length).1
          obtain ⟨R, hR⟩ : ∃ R, R = room x'.length := ⟨_, rfl⟩
          have hrm : 128 - (x'.length + (padL x'.length).length) % 128 = R + 7 := by rw [hR]; exact room_add _ _ rfl
          have hR121 : R ≤ 121 := by rw [hR]; exact room_le _
          have HR := hide hR
          clear hR
          have hrmI : (128 : Int) - ((x'.length : Int) + ((padL x'.length).length : Int)) % 128 - 7 = R := by omega
          obtain ⟨P, HPd⟩ : ∃ P, Hid (P = padL x'.length) := ⟨_, hide rfl⟩
          rw [← HPd.out] at hpl hrm hrmI ⊢
          go_wp2_with fail
          refine (lgCutTo_any (c :: t) R _ (by omega) (by omega)).mono ?_
          rintro e w2 ⟨rfl, rfl⟩
          by_cases hfit : ((c :: t)).length ≤ R
          · have HT := hide (List.take_of_length_le hfit)
            have HD := hide (show ((c :: t)).drop ((c :: t)).length = [] from List.drop_length)
            have HL := hide (contB_last false x'.length ((c :: t)) HF.out (by rw [← HR.out]; exact hfit))
            rw [HT.out]
            have hsz0 : (bs ([] : List UInt8)) = { data := #[] } := rfl
            have hpb : (partB 4 ((c :: t))).length = 7 + ((c :: t)).length := partB_length _ _
            go_wp2_with fail
            refine (rPartOf_i _ 4 ((c :: t)) _ (by decide) (by omega) rfl).mono ?_
            rintro e w3 ⟨rfl, hg3⟩
            have HG3 : Hid (Grow w w3) := hide (HG1.out.trans hg3)
            clear hg3
            go_wp2_with fail
            go_roundw
            case rel =>
              refine ⟨x' ++ P ++ partB 4 ((c :: t)), [], true, true, by simp only [List.append_assoc], rfl, rfl, by simp, HG3, ?_, hide (fun _ => ⟨rfl, rfl, ?_⟩), hide (fun h => by cases h)⟩
              · rw [List.length_append, List.length_append, hpb]
                simp at hlen hfit ⊢
                omega
              · rw [HE.out]
                refine (congrArg (x' ++ ·) HL.out).trans ?_
                rw [HPd.out, List.append_assoc]
                rfl
            case measure =>
              simp [bs_size]
          · skip
            have hRl : R < ((c :: t)).length := by omega
            have hRt : R < t.length + 1 := by simpa using hRl
            have HR0 : Hid (R = 121 ∧ P.length = 0) := hide (⟨by rw [HR.out, room_zero (HF.out rfl)], by rw [HPd.out, pad_zero (HF.out rfl)]; rfl⟩)
            have HT : Hid ((((c :: t)).take R).length = R) := hide (by rw [List.length_take]; omega)
            have HL := hide (contB_more false x'.length ((c :: t)) HF.out (by rw [← HR.out]; exact hfit))
            have HN := hide (room_next x'.length)
            rw [← HR.out, ← HPd.out] at HL HN
            obtain ⟨T, HTd⟩ : ∃ T, Hid (T = ((c :: t)).take R) := ⟨_, hide rfl⟩
            obtain ⟨D, HDd⟩ : ∃ D, Hid (D = ((c :: t)).drop R) := ⟨_, hide rfl⟩
            have hDl : D.length = ((c :: t)).length - R := by rw [HDd.out, List.length_drop]
            rw [← HTd.out] at HT
            rw [← HTd.out, ← HDd.out] at HL
            rw [← HTd.out]
            have hTl : T.length = R := HT.out
            have hDne : D ≠ [] := fun h => by rw [h] at hDl; simp at hDl hRl; omega
            have hD0 : ¬ (bs D = { data := #[] }) := fun h => hDne (bs_inj (b := []) h)
            have hD1 : ¬ (bs D = ByteArray.empty) := hD0
            have hDe : D.isEmpty = false := by simpa using hDne
            have hcut : ∀ (m : Nat), m = ((c :: t)).length - R → List.take m (List.drop R ((c :: t))) = D := fun m hm => by rw [hm, HDd.out, List.take_of_length_le (by rw [List.length_drop]; exact Nat.le_refl _)]
            have hpb : (partB 3 T).length = 7 + R := by rw [partB_length, hTl]
            go_wp2_with fail
            refine (rPartOf_i _ 3 T _ (by decide) (by omega) rfl).mono ?_
            rintro e w3 ⟨rfl, hg3⟩
            have HG3 : Hid (Grow w w3) := hide (HG1.out.trans hg3)
            clear hg3
            have hN := HN.out
            go_wp2_with fail
            go_roundw
            case rel =>
              have hl3 : (x' ++ P ++ partB 3 T).length = x'.length + P.length + 7 + R := by rw [List.length_append, List.length_append, hpb]; omega
              refine ⟨x' ++ P ++ partB 3 T, D, false, true, by simp only [List.append_assoc], rfl, rfl, by rw [hDl]; omega, HG3, ?_, hide (fun h => by cases h), hide (fun _ => ⟨fun _ => ⟨hDne, ?_⟩, ?_⟩)⟩
              · rw [hl3, hDl]
                have hr0 := HR0.out
                simp at hlen hRl ⊢
                omega
              · rw [hl3]; exact hN
              · rw [HE.out]
                refine (congrArg (x' ++ ·) HL.out).trans ?_
                simp [contB, List.append_assoc]
            case measure =>
              have h2 : (bs D).size = ((c :: t)).length - R := by rw [bs_size, hDl]
              have h3 : (bs ((c :: t))).size = ((c :: t)).length := bs_size _
              have hr0 := HR0.out
              simp only [h2, h3]
              omega

end Go.Proofs.Ytjjjncainakbiaa.Lg
