/- A field with another number, ahead of a text or behind it, changes nothing: plain mathematics. -/
import Derived.Test.YtojljbgopknbcabKit
import Derived.Test.YtojljbgopknbcabSpec
import Derived.Test.YtojljbgopknbcabSpec2
import Derived.Test.YtojljbgopknbcabWSer
import Derived.Test.YtojljbgopknbcabWTop
import Derived.Test.YtojljbgopknbcabRdF
import Derived.Test.YtojljbgopknbcabRdG
import Derived.Test.YtojljbgopknbcabRound
import Derived.Test.YtojljbgopknbcabRJoin
set_option linter.unusedVariables false
set_option linter.unusedSimpArgs false
namespace Go.Proofs.Ytojljbgopknbcab

theorem allRead_ahead (h : Nat) (b s : List UInt8) (h2 : h % 8 = 2) (h1 : 18 ≤ h) (h3 : h / 8 ≤ 536870911) (hs : b.length < 18446744073709551616) : allRead (fieldB h b ++ s) = allRead s := by
  have hf := fields_bytes h b s h2 (by omega) h3 hs
  have hne : h ≠ 10 := by omega
  have e1 : allOk (h, 0, b) = true := by simp [allOk, hne]
  have e2 : allStep [] (h, 0, b) = [] := by simp [allStep, hne]
  have hok : fieldsOk allOk (fieldB h b ++ s) = fieldsOk allOk s := by simp only [fieldsOk, hf, List.all_cons, e1, Bool.true_and]
  unfold allRead
  rw [hok, hf]
  simp only [allOf, List.foldl_cons, e2]
theorem allRead_alone (h : Nat) (b : List UInt8) (h2 : h % 8 = 2) (h1 : 18 ≤ h) (h3 : h / 8 ≤ 536870911) (hs : b.length < 18446744073709551616) : allRead (fieldB h b) = some [] := by
  have e := allRead_ahead h b [] h2 h1 h3 hs
  rw [List.append_nil] at e
  rw [e]
  rfl
theorem allRead_behind (h : Nat) (b s : List UInt8) (l : List Ser) (h2 : h % 8 = 2) (h1 : 18 ≤ h) (h3 : h / 8 ≤ 536870911) (hs : b.length < 18446744073709551616) (hl : allRead s = some l) : allRead (s ++ fieldB h b) = some l := by
  have e := allRead_append hl (allRead_alone h b h2 h1 h3 hs)
  rw [List.append_nil] at e
  exact e
theorem readErr_ahead (h : Nat) (b s : List UInt8) (h2 : h % 8 = 2) (h1 : 18 ≤ h) (h3 : h / 8 ≤ 536870911) (hs : b.length < 18446744073709551616) (hn : readErr s ≠ 0) : readErr (fieldB h b ++ s) ≠ 0 := by
  have e := allRead_ahead h b s h2 h1 h3 hs
  unfold readErr at hn ⊢
  split
  · rename_i hle
    rw [List.length_append] at hle
    rw [if_pos (by omega)] at hn
    unfold rdErr at hn ⊢
    rw [e]
    exact hn
  · omega
theorem readErr_fine {s t : List UInt8} {l : List Ser} (h0 : readErr s = 0) (hl : allRead s = some l) (ht : allRead t = some l) (hlen : t.length ≤ 20000) : readErr t = 0 := by
  have h1 := readErr_none h0 hl
  unfold readErr rdErr
  rw [ht, if_pos hlen]
  simp [h1.1, h1.2.1]
theorem readErr_long {t : List UInt8} (hlen : ¬ t.length ≤ 20000) : readErr t = 2 := by
  unfold readErr
  rw [if_neg hlen]

end Go.Proofs.Ytojljbgopknbcab
