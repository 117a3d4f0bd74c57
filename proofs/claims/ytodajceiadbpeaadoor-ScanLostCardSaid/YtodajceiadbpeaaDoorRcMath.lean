/-
  PLAIN MATHEMATICS OF RECORDS (P6.1): a record's numbers and Body, its bytes, what bytes begin with. No program stands in it.
-/
import Derived.Test.YtodajceiadbpeaaDoorNumMath
import Derived.Test.YtodajceiadbpeaaDoorCrcXor
import Derived.Test.YtodajceiadbpeaaDoorDkBytes
namespace Go.Proofs.YtodajceiadbpeaaDoor.recd
open Go.RowKit Go.Proofs.YtodajceiadbpeaaDoor.num Go.Proofs.YtodajceiadbpeaaDoor.disk

/-- A text's bytes, and bytes as a text. -/
def bs (s : ByteArray) : List Int := s.data.toList.map fun c => (c.toNat : Int)
def str (l : List Int) : ByteArray := ⟨(l.map fun c => UInt8.ofNat c.toNat).toArray⟩
theorem bs_length (s : ByteArray) : (bs s).length = s.size := by rw [bs, List.length_map, Array.length_toList]; rfl
theorem bs_byte (s : ByteArray) : Byte (bs s) := by
  intro c hc
  obtain ⟨x, _, rfl⟩ := List.mem_map.1 hc
  have := x.toNat_lt
  omega
theorem str_size (l : List Int) : (str l).size = l.length := by rw [str, show ∀ a : Array UInt8, (ByteArray.mk a).size = a.size from fun _ => rfl, List.size_toArray, List.length_map]
theorem bs_str {l : List Int} (h : Byte l) : bs (str l) = l := by
  unfold bs str
  simp only [List.map_map]
  conv => rhs; rw [← List.map_id l]
  apply List.map_congr_left
  intro c hc
  have := h c hc
  simp only [Function.comp, id, UInt8.toNat_ofNat']
  omega
theorem str_bs (s : ByteArray) : str (bs s) = s := by
  unfold bs str
  rw [List.map_map]
  have : (s.data.toList.map ((fun c : Int => UInt8.ofNat c.toNat) ∘ fun c : UInt8 => (c.toNat : Int))) = s.data.toList := by
    conv => rhs; rw [← List.map_id s.data.toList]
    apply List.map_congr_left
    intro c _
    simp
  rw [this]
theorem str_inj {a b : List Int} (ha : Byte a) (hb : Byte b) (h : str a = str b) : a = b := by rw [← bs_str ha, h, bs_str hb]
theorem bs_inj {s t : ByteArray} (h : bs s = bs t) : s = t := by rw [← str_bs s, h, str_bs]

structure Rec where
  kind : Int
  tenant : Nat
  epoch : Nat
  object : Nat
  seq : Nat
  body : ByteArray
deriving DecidableEq

def Rec.cells (r : Rec) : List Value := [.int .i64 r.kind, .int .u32 (r.tenant : Int), .int .u64 (r.epoch : Int), .int .u64 (r.object : Int), .int .u64 (r.seq : Int), .string r.body]
/-- Its numbers are of their types. -/
structure Rec.Fit (r : Rec) : Prop where
  kind : -9223372036854775808 ≤ r.kind ∧ r.kind ≤ 9223372036854775807
  tenant : r.tenant < 4294967296
  body : r.body.size ≤ maxLen

def isKindB (n : Int) : Bool := decide (1 ≤ n ∧ n ≤ 4)
def numB (r : Rec) : Bool := isKindB r.kind && decide (r.epoch ≤ 1099511627776 ∧ r.object ≤ 1099511627776 ∧ r.seq ≤ 1099511627776)
def mayB (r : Rec) : Bool := numB r && decide (r.body.size ≤ 1000)

/-- The 35 bytes of its numbers. -/
def numL (r : Rec) : List Int := [83, 82] ++ be r.kind.toNat 1 ++ be r.tenant 4 ++ be r.epoch 8 ++ be r.object 8 ++ be r.seq 8 ++ be r.body.size 4
def sumOf (l : List Int) : Nat := (crc.sum l).toNat
def encL (r : Rec) : List Int := numL r ++ be (sumOf (numL r ++ bs r.body)) 4 ++ bs r.body
/-- What Encode answers with. -/
def enc (r : Rec) : List Int := if mayB r then encL r else []

theorem numL_length (r : Rec) : (numL r).length = 35 := by simp [numL, be_length]
theorem encL_length (r : Rec) : (encL r).length = 39 + r.body.size := by simp only [encL, List.length_append, numL_length, be_length, bs_length]
theorem be_Byte (n k : Nat) : Byte (be n k) := be_byte k n
theorem numL_byte (r : Rec) : Byte (numL r) := by
  unfold numL
  refine ((((((Byte.append ?_ (be_Byte _ _)).append (be_Byte _ _)).append (be_Byte _ _)).append (be_Byte _ _)).append (be_Byte _ _)).append (be_Byte _ _))
  intro c hc
  simp at hc
  omega
theorem encL_byte (r : Rec) : Byte (encL r) := ((numL_byte r).append (be_Byte _ _)).append (bs_byte _)

/-! what bytes begin with -/
def sub (b : List Int) (p q : Nat) : List Int := (b.drop p).take (q - p)
theorem sub_length (b : List Int) (p q : Nat) (h : q ≤ b.length) : (sub b p q).length = q - p := by
  unfold sub; rw [List.length_take, List.length_drop]; omega
theorem sub_byte {b : List Int} (h : Byte b) (p q : Nat) : Byte (sub b p q) := (h.drop p).take _
def begB (b : List Int) : Bool := decide (b.take 2 = [83, 82].take (min b.length 2)) && (decide (b.length ≤ 2) || isKindB (b.getD 2 0))
def headOf (b : List Int) : Rec := ⟨(val (sub b 2 3) : Nat), val (sub b 3 7), val (sub b 7 15), val (sub b 15 23), val (sub b 23 31), ByteArray.empty⟩
def lenOf (b : List Int) : Nat := val (sub b 31 35)
def zeroRec : Rec := ⟨0, 0, 0, 0, 0, ByteArray.empty⟩
/-- What Decode answers with: the record, how many bytes, the error's number (0 none, 4 corrupt, 11 more). -/
def dec (b : List Int) : Rec × Nat × Int :=
  if begB b = false then (zeroRec, 0, 4)
  else if b.length < 39 then (zeroRec, 0, 11)
  else if numB (headOf b) = false ∨ 1000 < lenOf b then (zeroRec, 0, 4)
  else if b.length < 39 + lenOf b then (zeroRec, 0, 11)
  else if sumOf (sub b 0 35 ++ sub b 39 (39 + lenOf b)) ≠ val (sub b 35 39) then (zeroRec, 0, 4)
  else ({ headOf b with body := str (sub b 39 (39 + lenOf b)) }, 39 + lenOf b, 0)
end Go.Proofs.YtodajceiadbpeaaDoor.recd
