/- Bytes as lists, strings over them, what a call owns: small laws that all walks of this seat use. -/
import Derived.WalkKit
import Derived.WalkSpells
import Derived.WalkLawsBesides
import Derived.Lib.AppendStr
set_option linter.unusedVariables false
set_option linter.unusedSimpArgs false
namespace Go.Proofs.YtdlmgkncneifaaaGreat
open Go.RowKit

theorem ret_int {k : IntKind} {a b : Int} (h : a = b) : Ending.returned (.int k a) = .returned (.int k b) := by rw [h]
theorem ret_bool {a b : Bool} (h : a = b) : Ending.returned (.bool a) = .returned (.bool b) := by rw [h]

theorem hide {p : Prop} (h : p) : Hid p := h

/-- A string by its bytes. -/
def bs (l : List UInt8) : ByteArray := ⟨l.toArray⟩
theorem bs_size (l : List UInt8) : (bs l).size = l.length := by simp [bs, ByteArray.size]
theorem bs_toList (l : List UInt8) : (bs l).toList = l := by simp [bs]
theorem bs_data (l : List UInt8) : (bs l).data.toList = l := by simp [bs]
theorem bs_append (a b : List UInt8) : bs a ++ bs b = bs (a ++ b) := by simp [bs, ByteArray.mk_append_mk]
theorem bs_surj (s : ByteArray) : s = bs s.data.toList := by simp [bs]
theorem bs_inj {a b : List UInt8} (h : bs a = bs b) : a = b := by have := congrArg (fun s => s.data.toList) h; simpa [bs] using this
theorem bs_get (l : List UInt8) (i : Nat) (h : i < (bs l).size) : (bs l)[i] = l[i]'(by simpa [bs_size] using h) := by simp [bs]; rfl
theorem bs_extract (l : List UInt8) (a b : Nat) : (bs l).extract a b = bs ((l.drop a).take (b - a)) := ByteArray.extract_mk l a b
theorem bs_nil : bs [] = ByteArray.empty := rfl
theorem bs_nil' : bs [] = { data := #[] } := rfl
theorem bs_exists (s : ByteArray) : ∃ l, s = bs l := ⟨_, bs_surj s⟩

/-- Bytes as cells. -/
def bytesV (l : List UInt8) : List Value := l.map fun b => .int .u8 (b.toNat : Int)
theorem bytesV_length (l : List UInt8) : (bytesV l).length = l.length := by simp [bytesV]
theorem bytesV_append (a b : List UInt8) : bytesV (a ++ b) = bytesV a ++ bytesV b := by simp [bytesV]
theorem bytesV_one (b : UInt8) : bytesV [b] = [.int .u8 (b.toNat : Int)] := rfl
theorem bytesV_oneCell (l : List UInt8) : ∀ u ∈ bytesV l, u.oneCell' = true := by
  intro u hu
  obtain ⟨_, _, rfl⟩ := List.mem_map.1 hu
  rfl

theorem strCells_bs (l : List UInt8) : Lib.strCells (bs l) = bytesV l := by
  simp [Lib.strCells, bytesV, bs]

/-- What the call owns as bytes, as a string. -/
theorem run_bytesStr {P : Program} {w : World} {src dst e : TypeId} {base : Nat} {v : Value} {l : List UInt8} (hs : P.underlying src = some (.slice e)) (he : P.underlying e = some (.int .u8)) (hd : P.underlying dst = some .string)
    (hown : w.ownsRow base e 1 v l.length (bytesV l)) : (convert src dst v).run P w = .ok (.string (bs l)) w := by
  have hc : ∀ g, v.ownBlock = some g → ∀ j u, (bytesV l)[j]? = some u → w.cell? ((⟨g, 0, none⟩ : Addr).add j) = some u := fun g hg => hown.cells hg
  rcases hown.2 with ⟨rfl, h0⟩ | ⟨g, cap, cur, rfl, _⟩
  · have : l = [] := List.eq_nil_of_length_eq_zero h0
    subst this
    exact run_convert_bytes_nil w src e hs he 0 0 dst hd
  · have h := run_convert_bytes_arg (P := P) w src e hs he g 0 l.length cap (l.map fun b => (b.toNat : Int)) (by simp) (fun i hi => by
      have := hc g rfl i (.int .u8 (l[i].toNat : Int)) (by simp [bytesV, hi])
      rw [Addr.add_lit] at this
      rw [this]
      simp [List.getD, hi]) dst hd
    rw [h]
    congr 2
    simp [strOfNums, bs, Function.comp_def]

/-- A byte's cell that has just been laid. -/
theorem bcell (w : World) (t : TypeId) (c : Int) (b : UInt8) (hc : (b.toNat : Int) = c) : ∀ j u, (bytesV [b])[j]? = some u → (w.alloc (.cells #[.int .u8 c] t)).cell? ((⟨w.heap.size, 0, none⟩ : Addr).add j) = some u := by
  intro j u hu
  subst hc
  match j, hu with
  | 0, hu =>
    simp [bytesV] at hu
    subst hu
    simp [Addr.add]

/-- A string of one byte, out of a slice that has just been laid. -/
theorem run_oneByte {P : Program} (w : World) {src dst e : TypeId} (hs : P.underlying src = some (.slice e)) (he : P.underlying e = some (.int .u8)) (hd : P.underlying dst = some .string) (t : TypeId) (c : Int) (b : UInt8) (hc : (b.toNat : Int) = c) :
    (convert src dst (.slice (some ⟨w.heap.size, 0, none⟩) 1 1)).run P (w.alloc (.cells #[.int .u8 c] t)) = .ok (.string (bs [b])) (w.alloc (.cells #[.int .u8 c] t)) := by
  subst hc
  have h := run_convert_bytes_arg (P := P) (w.alloc (.cells #[.int .u8 (b.toNat : Int)] t)) src e hs he w.heap.size 0 1 1 [(b.toNat : Int)] rfl (fun i hi => by
    obtain rfl : i = 0 := by omega
    simp) dst hd
  rw [h]
  simp [strOfNums, bs]

/-- The eight bytes of a number, the lowest first. -/
def wordF : Nat → Nat → List UInt8
  | 0, _ => []
  | f + 1, n => UInt8.ofNat n :: wordF f (n / 256)
def wordB (n : Nat) : List UInt8 := wordF 8 n
theorem wordB_length (n : Nat) : (wordB n).length = 8 := rfl

theorem byte_eq (a : Nat) (x : Int) (h : x = ((a % 256 : Nat) : Int)) : UInt8.ofNat x.toNat = UInt8.ofNat a := by
  subst h
  apply UInt8.toNat_inj.1
  simp
  omega

theorem word_conv {P : Program} (w : World) (n : Nat) {src dst e : TypeId} (hs : P.underlying src = some (.slice e)) (he : P.underlying e = some (.int .u8)) (hd : P.underlying dst = some .string) (t : TypeId) :
    (convert src dst (.slice (some ⟨w.heap.size, 0, none⟩) 8 8)).run P (w.alloc (.cells #[.int .u8 ((n : Int) % 256), .int .u8 ((n : Int) / 256 % 256), .int .u8 ((n : Int) / 65536 % 256), .int .u8 ((n : Int) / 16777216 % 256), .int .u8 ((n : Int) / 4294967296 % 256), .int .u8 ((n : Int) / 1099511627776 % 256), .int .u8 ((n : Int) / 281474976710656 % 256), .int .u8 ((n : Int) / 72057594037927936 % 256)] t)) =
      .ok (.string (bs (wordB n))) (w.alloc (.cells #[.int .u8 ((n : Int) % 256), .int .u8 ((n : Int) / 256 % 256), .int .u8 ((n : Int) / 65536 % 256), .int .u8 ((n : Int) / 16777216 % 256), .int .u8 ((n : Int) / 4294967296 % 256), .int .u8 ((n : Int) / 1099511627776 % 256), .int .u8 ((n : Int) / 281474976710656 % 256), .int .u8 ((n : Int) / 72057594037927936 % 256)] t)) := by
  have h := run_convert_bytes_arg (P := P) (w.alloc (.cells #[.int .u8 ((n : Int) % 256), .int .u8 ((n : Int) / 256 % 256), .int .u8 ((n : Int) / 65536 % 256), .int .u8 ((n : Int) / 16777216 % 256), .int .u8 ((n : Int) / 4294967296 % 256), .int .u8 ((n : Int) / 1099511627776 % 256), .int .u8 ((n : Int) / 281474976710656 % 256), .int .u8 ((n : Int) / 72057594037927936 % 256)] t)) src e hs he w.heap.size 0 8 8
    [(n : Int) % 256, (n : Int) / 256 % 256, (n : Int) / 65536 % 256, (n : Int) / 16777216 % 256, (n : Int) / 4294967296 % 256, (n : Int) / 1099511627776 % 256, (n : Int) / 281474976710656 % 256, (n : Int) / 72057594037927936 % 256] rfl (fun i hi => by
      match i, hi with
      | 0, _ => simp
      | 1, _ => simp
      | 2, _ => simp
      | 3, _ => simp
      | 4, _ => simp
      | 5, _ => simp
      | 6, _ => simp
      | 7, _ => simp) dst hd
  rw [h]
  have e : strOfNums [(n : Int) % 256, (n : Int) / 256 % 256, (n : Int) / 65536 % 256, (n : Int) / 16777216 % 256, (n : Int) / 4294967296 % 256, (n : Int) / 1099511627776 % 256, (n : Int) / 281474976710656 % 256, (n : Int) / 72057594037927936 % 256] = bs (wordB n) := by
    simp only [strOfNums, bs, wordB, wordF, List.map]
    rw [byte_eq n _ (by omega), byte_eq (n / 256) _ (by omega), byte_eq (n / 256 / 256) _ (by omega), byte_eq (n / 256 / 256 / 256) _ (by omega), byte_eq (n / 256 / 256 / 256 / 256) _ (by omega), byte_eq (n / 256 / 256 / 256 / 256 / 256) _ (by omega), byte_eq (n / 256 / 256 / 256 / 256 / 256 / 256) _ (by omega), byte_eq (n / 256 / 256 / 256 / 256 / 256 / 256 / 256) _ (by omega)]
  rw [e]

theorem own_shape {w : World} {base e size n : Nat} {v : Value} {xs : List Value} (h : w.ownsRow base e size v n xs) : ∃ ao cp, v = .slice ao n cp := by
  rcases h.2 with ⟨rfl, h0⟩ | ⟨g, cap, cur, rfl, _⟩
  · exact ⟨none, 0, by rw [h0]⟩
  · exact ⟨_, _, rfl⟩
/-- A row is no block of another element type. -/
theorem own_apart {w : World} {base e size n b : Nat} {v : Value} {xs : List Value} (h : w.ownsRow base e size v n xs) {c : Array Value} {t : TypeId} {fr : Nat × Nat} (hb : w.heap[b]? = some (.cells c t fr)) (ht : e ≠ t) : v.ownBlock ≠ some b := by
  rcases h.2 with ⟨rfl, h0⟩ | ⟨g, cap, cur, rfl, _, hg, _⟩
  · simp [Value.ownBlock]
  · intro e
    simp [Value.ownBlock] at e
    subst e
    rw [hg] at hb
    simp at hb
    exact ht hb.2.1
theorem grown_block {w w' : World} {row : Option Nat} (h : w.grownBy w' row) {b : Nat} {o : Obj} (hb : w.heap[b]? = some o) (hne : row ≠ some b) : w'.heap[b]? = some o := by
  rw [h.block b (lt_of_block hb) (fun e => hne e.symm)]; exact hb
theorem below_block {B : Nat} {w w' : World} (h : Below B w w') {b : Nat} {o : Obj} (hb : w.heap[b]? = some o) (hlt : b < B) : w'.heap[b]? = some o := by
  rw [h.block b hlt]; exact hb

theorem run_oneAt {P : Program} (w : World) {src dst e : TypeId} (hs : P.underlying src = some (.slice e)) (he : P.underlying e = some (.int .u8)) (hd : P.underlying dst = some .string) {g : Nat} {t : TypeId} {c : Int} (h : w.heap[g]? = some (.cells #[.int .u8 c] t (0, 0))) (b : UInt8) (hc : (b.toNat : Int) = c) :
    (convert src dst (.slice (some ⟨g, 0, none⟩) 1 1)).run P w = .ok (.string (bs [b])) w := by
  subst hc
  have h := run_convert_bytes_arg (P := P) w src e hs he g 0 1 1 [(b.toNat : Int)] rfl (fun i hi => by
    obtain rfl : i = 0 := by omega
    simpa using cell_of_one h) dst hd
  rw [h]
  simp [strOfNums, bs]

theorem ofNat_toNat (n : Nat) (h : n < 256) : (((UInt8.ofNat n).toNat : Nat) : Int) = (n : Int) := by
  simp; omega

end Go.Proofs.YtdlmgkncneifaaaGreat
