/- checkCounts, checkTimes. -/
import Derived.Test.YtmdakfmecfcbhaaGreatProg
import Derived.Test.YtmdakfmecfcbhaaGreatKit
import Derived.Test.YtmdakfmecfcbhaaGreatSpec
import Derived.Test.YtmdakfmecfcbhaaGreatWNum
import Derived.Test.YtmdakfmecfcbhaaGreatWWri
import Derived.Test.YtmdakfmecfcbhaaGreatWSer
set_option linter.unusedVariables false
set_option linter.unusedSimpArgs false
namespace Go.Proofs.YtmdakfmecfcbhaaGreat
open Go.RowKit
attribute [local go_sem] bs_size bs_toList bs_append bs_get bs_extract

def CountsOk (l : List Ser) : Prop := l.length ≤ 200 ∧ ∀ x ∈ l, serFits x
def TimesOk (l : List Ser) : Prop := ∀ x ∈ l, ∀ y ∈ x.2, -9007199254740991 ≤ y.1 ∧ y.1 ≤ 9007199254740991

/-- A check: it comes back where it holds, and gives up with an error where it doesn't. -/
def checked (p : Prop) (err : Int) (w : World) (e : Ending) (w' : World) : Prop := Below w.heap.size w w' ∧ ((p ∧ e = .returned (.tuple #[])) ∨ (¬ p ∧ e = gaveUp err))

set_option maxRecDepth 20000 in
set_option maxHeartbeats 2000000 in
theorem checkCounts_any (w : World) (v : Value) (ls : List Ser) (hv : readsSeries w w.heap.size v ls) (hlen : ls.length ≤ 9223372036854775807) (hin : ∀ x ∈ ls, x.1.length ≤ 9223372036854775807 ∧ x.2.length ≤ 9223372036854775807 ∧ ∀ y ∈ x.1, y.1.length ≤ 9223372036854775807 ∧ y.2.length ≤ 9223372036854775807) :
    Calls Tryz.prog 39 #[v] w (checked (CountsOk ls) 2 w) := by
  obtain ⟨ao, cp, rfl, hcells⟩ := id hv
  have HL := hide hlen
  have HI := hide hin
  have HV := hide hv
  clear hlen hin hv
  go_enter Tryz.func39, Tryz.ntmps39
  by_cases h200 : ls.length ≤ 200
  · go_wp2_with (go_at_call 64; refine (most_ok _ _ _ (by omega)).mono ?_; rintro e w' ⟨rfl, rfl⟩)
    rename World => w
    go_loopw [11] (fun i wr => ∃ k : Nat, k ≤ ls.length ∧ i = .int .i64 k ∧ Below w.heap.size w wr ∧ Hid (∀ j (h : j < ls.length), j < k → serFits ls[j])) (fun i _ => ls.length - (intOf i).toNat)
    case atStart => exact ⟨0, by omega, rfl, Below.refl _ _, hide (fun j _ h => by omega)⟩
    case round =>
      obtain ⟨k, hk, rfl, hb, HD⟩ := hrel
      by_cases hlt : k < ls.length
      · obtain ⟨lb, lo, x, y, rfl, hlB, c0, c1, rx, ry⟩ := hcells k hlt
        have d0 := (hb.cell (p := ⟨lb, lo + k * 2, none⟩) hlB).trans c0
        have d1 := (hb.cell (p := ⟨lb, lo + k * 2 + 1, none⟩) hlB).trans c1
        obtain ⟨xo, xc, rfl, xcells⟩ := id rx
        obtain ⟨yo, yc, rfl, _⟩ := id ry
        clear c0 c1 hcells
        have HK := hide (HI.out _ (List.getElem_mem hlt))
        by_cases h20 : ls[k].1.length ≤ 20
        · by_cases hs200 : ls[k].2.length ≤ 200
          · go_wp2_with (go_at_call 64; refine (most_ok _ _ _ (by omega)).mono ?_; rintro e w' ⟨rfl, rfl⟩)
            have hbs := hb.size
            have hb0 : Below w.heap.size w (wr.alloc (.cells #[.slice xo ls[k].1.length xc, .slice yo ls[k].2.length yc] 41)) := hb.alloc hbs _
            go_loopw [26] (fun i wi => ∃ q : Nat, q ≤ ls[k].1.length ∧ i = .int .i64 q ∧ Below w.heap.size w wi ∧ Hid (∀ j (h : j < ls[k].1.length), j < q → ls[k].1[j].1.length ≤ 20000 ∧ ls[k].1[j].2.length ≤ 20000)) (fun i _ => ls[k].1.length - (intOf i).toNat)
            case atStart => exact ⟨0, by omega, rfl, hb0, hide (fun j _ h => by omega)⟩
            case round =>
              obtain ⟨q, hq, rfl, hbi, HQ⟩ := hrel
              have hbis := hbi.size
              by_cases hqlt : q < ls[k].1.length
              · obtain ⟨nb, no, rfl, hnB, e0, e1⟩ := xcells q hqlt
                have f0 := (hbi.cell (p := ⟨nb, no + q * 2, none⟩) hnB).trans e0
                have f1 := (hbi.cell (p := ⟨nb, no + q * 2 + 1, none⟩) hnB).trans e1
                clear e0 e1 xcells d0 d1
                have hQQ := HK.out.2.2 _ (List.getElem_mem hqlt)
                by_cases hn : ls[k].1[q].1.length ≤ 20000
                · by_cases hm : ls[k].1[q].2.length ≤ 20000
                  · go_wp2_with (go_at_call 64; refine (most_ok _ _ _ (by omega)).mono ?_; rintro e w' ⟨rfl, rfl⟩)
                    go_roundw
                    case rel => exact ⟨q + 1, by omega, by go_num, hbi.alloc hbis _, hide (fun j hj h => by
                      by_cases e : j = q
                      · subst e; exact ⟨hn, hm⟩
                      · exact HQ.out j hj (by omega))⟩
                    case measure => simp [intOf]; omega
                  · go_wp2_with (first | (go_at_call 64; refine (most_ok _ _ _ (by omega)).mono ?_; rintro e w' ⟨rfl, rfl⟩) | (go_at_call 64; refine (most_no _ _ _ (by omega)).mono ?_; rintro e w' ⟨rfl, rfl⟩))
                    exact ⟨rfl, hbi.alloc hbis _, .inr ⟨fun hok => hm ((hok.2 _ (List.getElem_mem hlt)).2.2 _ (List.getElem_mem hqlt)).2, rfl⟩⟩
                · go_wp2_with (go_at_call 64; refine (most_no _ _ _ (by omega)).mono ?_; rintro e w' ⟨rfl, rfl⟩)
                  exact ⟨rfl, hbi.alloc hbis _, .inr ⟨fun hok => hn ((hok.2 _ (List.getElem_mem hlt)).2.2 _ (List.getElem_mem hqlt)).1, rfl⟩⟩
              · go_wp2
                go_roundw
                case rel => exact ⟨k + 1, by omega, by go_num, hbi, hide (fun j hj h => by
                  by_cases e : j = k
                  · subst e
                    refine ⟨h20, hs200, fun y hy => ?_⟩
                    obtain ⟨p, hp, rfl⟩ := List.getElem_of_mem hy
                    exact HQ.out p hp (by omega)
                  · exact HD.out j hj (by omega))⟩
                case measure => simp [intOf]; omega
          · go_wp2_with (first | (go_at_call 64; refine (most_ok _ _ _ (by omega)).mono ?_; rintro e w' ⟨rfl, rfl⟩) | (go_at_call 64; refine (most_no _ _ _ (by omega)).mono ?_; rintro e w' ⟨rfl, rfl⟩))
            exact ⟨rfl, hb.alloc hb.size _, .inr ⟨fun hok => hs200 (hok.2 _ (List.getElem_mem hlt)).2.1, rfl⟩⟩
        · go_wp2_with (go_at_call 64; refine (most_no _ _ _ (by omega)).mono ?_; rintro e w' ⟨rfl, rfl⟩)
          exact ⟨rfl, hb.alloc hb.size _, .inr ⟨fun hok => h20 (hok.2 _ (List.getElem_mem hlt)).1, rfl⟩⟩
      · go_wp2
        go_end0
        exact ⟨hb, .inl ⟨⟨h200, fun x hx => by obtain ⟨p, hp, rfl⟩ := List.getElem_of_mem hx; exact HD.out p hp (by omega)⟩, rfl⟩⟩
  · have := HL.out
    go_wp2_with (go_at_call 64; refine (most_no _ _ _ (by omega)).mono ?_; rintro e w' ⟨rfl, rfl⟩)
    exact ⟨rfl, Below.refl _ _, .inr ⟨fun hok => h200 hok.1, rfl⟩⟩

set_option maxRecDepth 20000 in
set_option maxHeartbeats 2000000 in
theorem checkTimes_any (w : World) (v : Value) (ls : List Ser) (hv : readsSeries w w.heap.size v ls) (hok : CountsOk ls) :
    Calls Tryz.prog 40 #[v] w (checked (TimesOk ls) 3 w) := by
  obtain ⟨ao, cp, rfl, hcells⟩ := id hv
  have hlen := hok.1
  have HI := hide hok.2
  clear hok hv
  go_enter Tryz.func40, Tryz.ntmps40
  go_wp2
  go_loopw [8] (fun i wr => ∃ k : Nat, k ≤ ls.length ∧ i = .int .i64 k ∧ Below w.heap.size w wr ∧ Hid (∀ j (h : j < ls.length), j < k → ∀ y ∈ ls[j].2, -9007199254740991 ≤ y.1 ∧ y.1 ≤ 9007199254740991)) (fun i _ => ls.length - (intOf i).toNat)
  case atStart => exact ⟨0, by omega, rfl, Below.refl _ _, hide (fun j _ h => by omega)⟩
  case round =>
    obtain ⟨k, hk, rfl, hb, HD⟩ := hrel
    by_cases hlt : k < ls.length
    · obtain ⟨lb, lo, x, y, rfl, hlB, c0, c1, rx, ry⟩ := hcells k hlt
      have d0 := (hb.cell (p := ⟨lb, lo + k * 2, none⟩) hlB).trans c0
      have d1 := (hb.cell (p := ⟨lb, lo + k * 2 + 1, none⟩) hlB).trans c1
      obtain ⟨xo, xc, rfl, _⟩ := id rx
      obtain ⟨yo, yc, rfl, ycells⟩ := id ry
      clear c0 c1 hcells
      have hs200 : ls[k].2.length ≤ 200 := (HI.out _ (List.getElem_mem hlt)).2.1
      go_wp2
      have hbs := hb.size
      have hb0 : Below w.heap.size w (wr.alloc (.cells #[.slice xo ls[k].1.length xc, .slice yo ls[k].2.length yc] 41)) := hb.alloc hbs _
      go_loopw [15] (fun i wi => ∃ q : Nat, q ≤ ls[k].2.length ∧ i = .int .i64 q ∧ Below w.heap.size w wi ∧ Hid (∀ j (h : j < ls[k].2.length), j < q → -9007199254740991 ≤ ls[k].2[j].1 ∧ ls[k].2[j].1 ≤ 9007199254740991)) (fun i _ => ls[k].2.length - (intOf i).toNat)
      case atStart => exact ⟨0, by omega, rfl, hb0, hide (fun j _ h => by omega)⟩
      case round =>
        obtain ⟨q, hq, rfl, hbi, HQ⟩ := hrel
        have hbis := hbi.size
        by_cases hqlt : q < ls[k].2.length
        · obtain ⟨nb, no, rfl, hnB, e0, e1⟩ := ycells q hqlt
          have f0 := (hbi.cell (p := ⟨nb, no + q * 2, none⟩) hnB).trans e0
          have f1 := (hbi.cell (p := ⟨nb, no + q * 2 + 1, none⟩) hnB).trans e1
          clear e0 e1 ycells d0 d1
          by_cases hlo : ls[k].2[q].1 < -9007199254740991
          · go_wp2
            exact ⟨rfl, hbi.alloc hbis _, .inr ⟨fun hok => by have := hok _ (List.getElem_mem hlt) _ (List.getElem_mem hqlt); omega, rfl⟩⟩
          · by_cases hhi : 9007199254740991 < ls[k].2[q].1
            · go_wp2
              exact ⟨rfl, hbi.alloc hbis _, .inr ⟨fun hok => by have := hok _ (List.getElem_mem hlt) _ (List.getElem_mem hqlt); omega, rfl⟩⟩
            · go_wp2
              go_roundw
              case rel => exact ⟨q + 1, by omega, by go_num, hbi.alloc hbis _, hide (fun j hj h => by
                by_cases e : j = q
                · subst e; exact ⟨by omega, by omega⟩
                · exact HQ.out j hj (by omega))⟩
              case measure => simp [intOf]; omega
        · go_wp2
          go_roundw
          case rel => exact ⟨k + 1, by omega, by go_num, hbi, hide (fun j hj h y hy => by
            by_cases e : j = k
            · subst e
              obtain ⟨p, hp, rfl⟩ := List.getElem_of_mem hy
              exact HQ.out p hp (by omega)
            · exact HD.out j hj (by omega) y hy)⟩
          case measure => simp [intOf]; omega
    · go_wp2
      go_end0
      exact ⟨hb, .inl ⟨fun x hx => by obtain ⟨p, hp, rfl⟩ := List.getElem_of_mem hx; exact HD.out p hp (by omega), rfl⟩⟩

end Go.Proofs.YtmdakfmecfcbhaaGreat
