/- gleanerref's checks: TooMany, CheckSeries. -/
import Derived.Test.YtojljbgopknbcaaProg
import Derived.Test.YtojljbgopknbcaaKit
import Derived.Test.YtojljbgopknbcaaSpec
import Derived.Test.YtojljbgopknbcaaWTop
import Derived.Test.YtojljbgopknbcaaRWri
set_option linter.unusedVariables false
set_option linter.unusedSimpArgs false
namespace Go.Proofs.Ytojljbgopknbcaa
open Go.RowKit
attribute [local go_sem] bs_size bs_toList bs_append bs_get bs_extract

theorem countsB_bad {ls : List Ser} {k : Nat} (hk : k < ls.length) (h : ¬ (ls[k].1.length ≤ 20 ∧ ls[k].2.length ≤ 200 ∧ ∀ y ∈ ls[k].1, y.1.length ≤ 20000 ∧ y.2.length ≤ 20000)) : countsB ls = false := by
  cases e : countsB ls with
  | false => rfl
  | true => exact absurd (((countsB_iff ls).2 e).2 _ (List.getElem_mem hk)) h

set_option maxRecDepth 20000 in
set_option maxHeartbeats 2000000 in
theorem tooMany_any (w : World) (v : Value) (ls : List Ser) (hv : readsSeries w w.heap.size v ls) (hfit : lensFit ls) :
    Calls Try.prog 41 #[v] w fun e w' => e = .returned (.bool (!countsB ls)) ∧ w' = w := by
  obtain ⟨ao, cp, rfl, hcells⟩ := id hv
  have HL := hfit.1
  have HI := hide hfit.2
  clear hfit hv
  go_enter Try.func41, Try.ntmps41
  go_wp2
  go_loop [3] (fun i => ∃ k : Nat, k ≤ ls.length ∧ i = .int .i64 k ∧ Hid (∀ j (h : j < ls.length), j < k → serFits ls[j])) (fun i => ls.length - (intOf i).toNat)
  case atStart => exact ⟨0, by omega, rfl, hide (fun j _ h => by omega)⟩
  case round =>
    obtain ⟨k, hk, rfl, HD⟩ := hrel
    by_cases hlt : k < ls.length
    · obtain ⟨lb, lo, x, y, rfl, hlB, c0, c1, rx, ry⟩ := hcells k hlt
      obtain ⟨xo, xc, rfl, xcells⟩ := id rx
      obtain ⟨yo, yc, rfl, _⟩ := id ry
      clear hcells
      have HK := HI.out _ (List.getElem_mem hlt)
      have HK1 := HK.1
      have HK2 := HK.2.1
      have HK3 := hide HK.2.2
      clear HK
      by_cases h20 : ls[k].1.length ≤ 20
      · by_cases hs200 : ls[k].2.length ≤ 200
        · go_wp2
          go_loop [4] (fun i => ∃ q : Nat, q ≤ ls[k].1.length ∧ i = .int .i64 q ∧ Hid (∀ j (h : j < ls[k].1.length), j < q → ls[k].1[j].1.length ≤ 20000 ∧ ls[k].1[j].2.length ≤ 20000)) (fun i => ls[k].1.length - (intOf i).toNat)
          case atStart => exact ⟨0, by omega, rfl, hide (fun j _ h => by omega)⟩
          case round =>
            obtain ⟨q, hq, rfl, HQ⟩ := hrel
            by_cases hqlt : q < ls[k].1.length
            · obtain ⟨nb, no, rfl, hnB, e0, e1⟩ := xcells q hqlt
              clear xcells
              have hQQ := HK3.out _ (List.getElem_mem hqlt)
              by_cases hn : ls[k].1[q].1.length ≤ 20000
              · by_cases hm : ls[k].1[q].2.length ≤ 20000
                · go_wp2
                  go_round
                  case rel => exact ⟨q + 1, by omega, by go_num, hide (fun j hj h => by
                    by_cases e : j = q
                    · subst e; exact ⟨hn, hm⟩
                    · exact HQ.out j hj (by omega))⟩
                  case measure => simp [intOf]; omega
                · have hb := hide (countsB_bad hlt (fun h => hm (h.2.2 _ (List.getElem_mem hqlt)).2))
                  go_wp2
                  go_ret
                  exact ⟨by rw [hb.out]; rfl, rfl⟩
              · have hb := hide (countsB_bad hlt (fun h => hn (h.2.2 _ (List.getElem_mem hqlt)).1))
                go_wp2
                go_ret
                exact ⟨by rw [hb.out]; rfl, rfl⟩
            · go_wp2
              go_round
              case rel => exact ⟨k + 1, by omega, by go_num, hide (fun j hj h => by
                by_cases e : j = k
                · subst e
                  refine ⟨h20, hs200, fun y hy => ?_⟩
                  obtain ⟨p, hp, rfl⟩ := List.getElem_of_mem hy
                  exact HQ.out p hp (by omega)
                · exact HD.out j hj (by omega))⟩
              case measure => simp [intOf]; omega
        · have hb := hide (countsB_bad hlt (fun h => hs200 h.2.1))
          go_wp2
          go_ret
          exact ⟨by rw [hb.out]; rfl, rfl⟩
      · have hb := hide (countsB_bad hlt (fun h => h20 h.1))
        go_wp2
        go_ret
        exact ⟨by rw [hb.out]; rfl, rfl⟩
    · have hall : ∀ x ∈ ls, serFits x := fun x hx => by obtain ⟨p, hp, rfl⟩ := List.getElem_of_mem hx; exact HD.out p hp (by omega)
      by_cases h200 : ls.length ≤ 200
      · have hb := hide ((countsB_iff ls).1 ⟨h200, hall⟩)
        clear hall
        go_wp2
        go_ret
        exact ⟨ret_bool (by rw [hb.out]; simp; omega), rfl⟩
      · have hb : Hid (countsB ls = false) := by
          show _ = _
          cases e : countsB ls with
          | false => rfl
          | true => exact absurd ((countsB_iff ls).2 e).1 h200
        clear hall
        go_wp2
        go_ret
        exact ⟨ret_bool (by rw [hb.out]; simp; omega), rfl⟩

theorem timesB_bad {ls : List Ser} {k q : Nat} (hk : k < ls.length) (hq : q < ls[k].2.length) (h : ¬ (-9007199254740991 ≤ ls[k].2[q].1 ∧ ls[k].2[q].1 ≤ 9007199254740991)) : timesB ls = false := by
  cases e : timesB ls with
  | false => rfl
  | true => exact absurd (((timesB_iff ls).2 e) _ (List.getElem_mem hk) _ (List.getElem_mem hq)) h

def checkErr (l : List Ser) : Int := if countsB l then (if timesB l then 0 else 3) else 2

set_option maxRecDepth 20000 in
set_option maxHeartbeats 2000000 in
theorem checkSeries_any (w : World) (v : Value) (ls : List Ser) (hv : readsSeries w w.heap.size v ls) (hfit : lensFit ls) :
    Calls Try.prog 26 #[v] w fun e w' => e = .returned (.int .i64 (checkErr ls)) ∧ w' = w := by
  obtain ⟨ao, cp, hvv, hcells⟩ := id hv
  have HF := hide hfit
  have HV := hide hv
  have HL := hfit.1
  clear hfit hv
  cases hc : countsB ls with
  | false =>
    have HC : Hid (countsB ls = false) := hc
    clear hc
    subst hvv
    go_enter Try.func26, Try.ntmps26
    go_wp2_with fail
    refine (tooMany_any w _ ls HV.out HF.out).mono ?_
    rintro e w' ⟨rfl, rfl⟩
    rw [HC.out]
    go_wp2
    go_ret
    exact ⟨by simp [checkErr, HC.out], rfl⟩
  | true =>
    have HC : Hid (countsB ls = true) := hc
    have h200 := ((countsB_iff ls).2 hc).1
    have HS := hide ((countsB_iff ls).2 hc).2
    clear hc
    subst hvv
    go_enter Try.func26, Try.ntmps26
    go_wp2_with fail
    refine (tooMany_any w _ ls HV.out HF.out).mono ?_
    rintro e w' ⟨rfl, rfl⟩
    rename World => w
    rw [HC.out]
    clear HL
    go_wp2
    go_loop [3] (fun i => ∃ k : Nat, k ≤ ls.length ∧ i = .int .i64 k ∧ Hid (∀ j (h : j < ls.length), j < k → ∀ y ∈ ls[j].2, -9007199254740991 ≤ y.1 ∧ y.1 ≤ 9007199254740991)) (fun i => ls.length - (intOf i).toNat)
    case atStart => exact ⟨0, by omega, rfl, hide (fun j _ h => by omega)⟩
    case round =>
      obtain ⟨k, hk, rfl, HD⟩ := hrel
      by_cases hlt : k < ls.length
      · obtain ⟨lb, lo, x, y, rfl, hlB, c0, c1, rx, ry⟩ := hcells k hlt
        obtain ⟨yo, yc, rfl, ycells⟩ := id ry
        clear hcells
        have hs200 : ls[k].2.length ≤ 200 := (HS.out _ (List.getElem_mem hlt)).2.1
        go_wp2
        go_loop [4] (fun i => ∃ q : Nat, q ≤ ls[k].2.length ∧ i = .int .i64 q ∧ Hid (∀ j (h : j < ls[k].2.length), j < q → -9007199254740991 ≤ ls[k].2[j].1 ∧ ls[k].2[j].1 ≤ 9007199254740991)) (fun i => ls[k].2.length - (intOf i).toNat)
        case atStart => exact ⟨0, by omega, rfl, hide (fun j _ h => by omega)⟩
        case round =>
          obtain ⟨q, hq, rfl, HQ⟩ := hrel
          by_cases hqlt : q < ls[k].2.length
          · obtain ⟨nb, no, rfl, hnB, e0, e1⟩ := ycells q hqlt
            clear ycells
            have hnot : ∀ (x : Bool) (w : World), (Op.unary .not (.bool x)).run Try.prog w = .ok (.bool (!x)) w := fun _ _ => rfl
            by_cases ht : -9007199254740991 ≤ ls[k].2[q].1 ∧ ls[k].2[q].1 ≤ 9007199254740991
            · have HT : Hid ((decide (-9007199254740991 ≤ ls[k].2[q].1) && decide (ls[k].2[q].1 ≤ 9007199254740991)) = true) := by show _ = _; simp [ht]
              clear ht
              go_wp2_with (go_at_call 42; refine (isTime_any _ _).mono ?_; rintro e w' ⟨rfl, rfl⟩; rw [HT.out])
              go_round
              case rel => exact ⟨q + 1, by omega, by go_num, hide (fun j hj h => by
                by_cases e : j = q
                · subst e; simpa using HT.out
                · exact HQ.out j hj (by omega))⟩
              case measure => simp [intOf]; omega
            · have HT : Hid ((decide (-9007199254740991 ≤ ls[k].2[q].1) && decide (ls[k].2[q].1 ≤ 9007199254740991)) = false) := by show _ = _; simpa using ht
              have hb := hide (timesB_bad hlt hqlt ht)
              clear ht
              go_wp2_with (go_at_call 42; refine (isTime_any _ _).mono ?_; rintro e w' ⟨rfl, rfl⟩; rw [HT.out])
              go_ret
              exact ⟨by simp [checkErr, HC.out, hb.out], rfl⟩
          · go_wp2
            go_round
            case rel => exact ⟨k + 1, by omega, by go_num, hide (fun j hj h y hy => by
              by_cases e : j = k
              · subst e
                obtain ⟨p, hp, rfl⟩ := List.getElem_of_mem hy
                exact HQ.out p hp (by omega)
              · exact HD.out j hj (by omega) y hy)⟩
            case measure => simp [intOf]; omega
      · have hb := hide ((timesB_iff ls).1 (fun x hx => by obtain ⟨p, hp, rfl⟩ := List.getElem_of_mem hx; exact HD.out p hp (by omega)))
        go_wp2
        go_ret
        exact ⟨by simp [checkErr, HC.out, hb.out], rfl⟩

end Go.Proofs.Ytojljbgopknbcaa
