/-
  JOINED: RcMath RcMay RcGrow RcEnc RcBegins RcHead RcDec RcDecMath RcSpMath RcRMath.
-/
import Derived.Test.YtpgclhpobijdeaaDoorMBase
import Derived.Lib.AppendStr
import Derived.Laws.IdiomStrings
import Derived.Laws.MakeOwn
import Derived.Deep.QuietTactic
import Derived.BigQuiet
import Derived.Deep.RegionHeld3
/-
  PLAIN MATHEMATICS OF RECORDS (P6.1): a record's numbers and Body, its bytes, what bytes begin with. No program stands in it.
-/



namespace Go.Proofs.YtpgclhpobijdeaaDoor.recd
open Go.RowKit Go.Proofs.YtpgclhpobijdeaaDoor.num Go.Proofs.YtpgclhpobijdeaaDoor.disk

/-- A text's bytes, and bytes as a text. -/
def bs (s : ByteArray) : List Int := s.data.toList.map fun c => (c.toNat : Int)
def str (l : List Int) : ByteArray := ⟨(l.map fun c => UInt8.ofNat c.toNat).toArray⟩
theorem bs_length (s : ByteArray) : (bs s).length = s.size := by rw [bs, List.length_map, Array.length_toList]; rfl
theorem bs_byte (s : ByteArray) : Byte (bs s) := by
  intro c hc
  obtain ⟨x, _, rfl⟩ := List.mem_map.1 hc
  have := x.toNat_lt
  omega
theorem str_size (l : List Int) : (str l).size = l.length := by rw [str, show ∀ a : Array UInt8, (ByteArray.mk a).size = a.size from fun _ => rfl, List.size_toArray, List.length_map]
theorem bs_str {l : List Int} (h : Byte l) : bs (str l) = l := by
  unfold bs str
  simp only [List.map_map]
  conv => rhs; rw [← List.map_id l]
  apply List.map_congr_left
  intro c hc
  have := h c hc
  simp only [Function.comp, id, UInt8.toNat_ofNat']
  omega
theorem str_bs (s : ByteArray) : str (bs s) = s := by
  unfold bs str
  rw [List.map_map]
  have : (s.data.toList.map ((fun c : Int => UInt8.ofNat c.toNat) ∘ fun c : UInt8 => (c.toNat : Int))) = s.data.toList := by
    conv => rhs; rw [← List.map_id s.data.toList]
    apply List.map_congr_left
    intro c _
    simp
  rw [this]
theorem str_inj {a b : List Int} (ha : Byte a) (hb : Byte b) (h : str a = str b) : a = b := by rw [← bs_str ha, h, bs_str hb]
theorem bs_inj {s t : ByteArray} (h : bs s = bs t) : s = t := by rw [← str_bs s, h, str_bs]

structure Rec where
  kind : Int
  tenant : Nat
  epoch : Nat
  object : Nat
  seq : Nat
  body : ByteArray
deriving DecidableEq

def Rec.cells (r : Rec) : List Value := [.int .i64 r.kind, .int .u32 (r.tenant : Int), .int .u64 (r.epoch : Int), .int .u64 (r.object : Int), .int .u64 (r.seq : Int), .string r.body]
/-- Its numbers are of their types. -/
structure Rec.Fit (r : Rec) : Prop where
  kind : -9223372036854775808 ≤ r.kind ∧ r.kind ≤ 9223372036854775807
  tenant : r.tenant < 4294967296
  body : r.body.size ≤ maxLen

def isKindB (n : Int) : Bool := decide (1 ≤ n ∧ n ≤ 4)
def numB (r : Rec) : Bool := isKindB r.kind && decide (r.epoch ≤ 1099511627776 ∧ r.object ≤ 1099511627776 ∧ r.seq ≤ 1099511627776)
def mayB (r : Rec) : Bool := numB r && decide (r.body.size ≤ 1000)

/-- The 35 bytes of its numbers. -/
def numL (r : Rec) : List Int := [83, 82] ++ be r.kind.toNat 1 ++ be r.tenant 4 ++ be r.epoch 8 ++ be r.object 8 ++ be r.seq 8 ++ be r.body.size 4
def sumOf (l : List Int) : Nat := (crc.sum l).toNat
def encL (r : Rec) : List Int := numL r ++ be (sumOf (numL r ++ bs r.body)) 4 ++ bs r.body
/-- What Encode answers with. -/
def enc (r : Rec) : List Int := if mayB r then encL r else []

theorem numL_length (r : Rec) : (numL r).length = 35 := by simp [numL, be_length]
theorem encL_length (r : Rec) : (encL r).length = 39 + r.body.size := by simp only [encL, List.length_append, numL_length, be_length, bs_length]
theorem be_Byte (n k : Nat) : Byte (be n k) := be_byte k n
theorem numL_byte (r : Rec) : Byte (numL r) := by
  unfold numL
  refine ((((((Byte.append ?_ (be_Byte _ _)).append (be_Byte _ _)).append (be_Byte _ _)).append (be_Byte _ _)).append (be_Byte _ _)).append (be_Byte _ _))
  intro c hc
  simp at hc
  omega
theorem encL_byte (r : Rec) : Byte (encL r) := ((numL_byte r).append (be_Byte _ _)).append (bs_byte _)

/-! what bytes begin with -/
def sub (b : List Int) (p q : Nat) : List Int := (b.drop p).take (q - p)
theorem sub_length (b : List Int) (p q : Nat) (h : q ≤ b.length) : (sub b p q).length = q - p := by
  unfold sub; rw [List.length_take, List.length_drop]; omega
theorem sub_byte {b : List Int} (h : Byte b) (p q : Nat) : Byte (sub b p q) := (h.drop p).take _
def begB (b : List Int) : Bool := decide (b.take 2 = [83, 82].take (min b.length 2)) && (decide (b.length ≤ 2) || isKindB (b.getD 2 0))
def headOf (b : List Int) : Rec := ⟨(val (sub b 2 3) : Nat), val (sub b 3 7), val (sub b 7 15), val (sub b 15 23), val (sub b 23 31), ByteArray.empty⟩
def lenOf (b : List Int) : Nat := val (sub b 31 35)
def zeroRec : Rec := ⟨0, 0, 0, 0, 0, ByteArray.empty⟩
/-- What Decode answers with: the record, how many bytes, the error's number (0 none, 4 corrupt, 11 more). -/
def dec (b : List Int) : Rec × Nat × Int :=
  if begB b = false then (zeroRec, 0, 4)
  else if b.length < 39 then (zeroRec, 0, 11)
  else if numB (headOf b) = false ∨ 1000 < lenOf b then (zeroRec, 0, 4)
  else if b.length < 39 + lenOf b then (zeroRec, 0, 11)
  else if sumOf (sub b 0 35 ++ sub b 39 (39 + lenOf b)) ≠ val (sub b 35 39) then (zeroRec, 0, 4)
  else ({ headOf b with body := str (sub b 39 (39 + lenOf b)) }, 39 + lenOf b, 0)
end Go.Proofs.YtpgclhpobijdeaaDoor.recd
/-
  CONTRACTS of record.isKind, mayNumbers, May.
-/



namespace Go.Proofs.YtpgclhpobijdeaaDoor.recd
open Go.RowKit Go.Proofs.YtpgclhpobijdeaaDoor.num Go.Proofs.YtpgclhpobijdeaaDoor.disk

/-- A record, as a value. -/
def Rec.val (r : Rec) : Value := .agg #[.int .i64 r.kind, .int .u32 (r.tenant : Int), .int .u64 (r.epoch : Int), .int .u64 (r.object : Int), .int .u64 (r.seq : Int), .string r.body]

theorem ret_bool {a b : Bool} (h : a = b) : Ending.returned (.bool a) = .returned (.bool b) := by rw [h]
end Go.Proofs.YtpgclhpobijdeaaDoor.recd
/-
  A ROW OF BYTES THAT GROWS: what is appended to it (what a call made; a text), the world meanwhile; a text as bytes.
-/




namespace Go.Proofs.YtpgclhpobijdeaaDoor.recd
open Go.RowKit Go.Proofs.YtpgclhpobijdeaaDoor.num Go.Proofs.YtpgclhpobijdeaaDoor.disk

/-- A row of one's own, made behind w0. -/
structure Grow (w0 : World) (l : List Int) (v : Value) (w : World) : Prop where
  own : Own w v l
  new_ : ∀ g, v.ownBlock = some g → w0.heap.size ≤ g
  below : Below w0.heap.size w0 w

theorem Grow.step {w0 w w1 w' : World} {v v' : Value} {l m : List Int} (h : Grow w0 l v w) (hb : Below w.heap.size w w1) (ho : Own w' v' (l ++ m)) (hg : w1.grownBy w' v.ownBlock) (hv : v'.ownBlock = v.ownBlock ∨ v'.ownBlock = some w1.heap.size) : Grow w0 (l ++ m) v' w' := by
  have b1 : Below w0.heap.size w0 w1 := h.below.trans (hb.mono h.below.size)
  refine ⟨ho, fun g hgg => ?_, b1.grown hg b1.size h.new_⟩
  rcases hv with hv | hv
  · exact h.new_ g (by rw [← hv]; exact hgg)
  · rw [hv] at hgg
    injection hgg with hgg
    have := b1.size
    omega
theorem Grow.later {w0 w w1 : World} {v : Value} {l : List Int} (h : Grow w0 l v w) (hb : Below w.heap.size w w1) : Grow w0 l v w1 := ⟨h.own.later hb, h.new_, h.below.trans (hb.mono h.below.size)⟩
/-- What a call made is appended. -/
theorem Grow.put {w0 w w1 : World} {v : Value} {l m : List Int} {e : Ending} (h : Grow w0 l v w) (n : Nat) (hn : m.length = n) (hm : Made w m e w1) (hs : l.length + n ≤ 1000000000) :
    ∃ a cap v' w', e = .returned (.slice a n cap) ∧ (Builtin.append_ #[44, 44] 44 #[v, .slice a n cap]).run Tryd.prog w1 = .ok v' w' ∧ Grow w0 (l ++ m) v' w' := by
  subst hn
  obtain ⟨u, rfl, o, nb, bl⟩ := hm
  obtain ⟨a, cap, rfl, _, _, hn, hl, _⟩ := o.form
  obtain ⟨v', w', hr, ho, hg, hv⟩ := append_row (h.own.later bl) a m.length cap m hl rfl (fun e => (hn e).2) hs
  exact ⟨a, cap, v', w', rfl, hr, h.step bl ho hg hv⟩
/-- Bytes that are there are appended. -/
theorem Grow.row {w0 w : World} {v : Value} {l m : List Int} (h : Grow w0 l v w) (a : Option Addr) (n cap : Nat) (hl : Leads w a m) (hn : m.length = n) (ha : a = none → cap = 0) (hs : l.length + n ≤ 1000000000) :
    ∃ v' w', (Builtin.append_ #[44, 44] 44 #[v, .slice a n cap]).run Tryd.prog w = .ok v' w' ∧ Grow w0 (l ++ m) v' w' := by
  obtain ⟨v', w', hr, ho, hg, hv⟩ := append_row h.own a n cap m hl hn ha hs
  exact ⟨v', w', hr, h.step (Below.refl _ _) ho hg hv⟩
theorem strCells_bs (s : ByteArray) : Lib.strCells s = u8s (bs s) := by simp [Lib.strCells, u8s, bs]
/-- A text is appended. -/
theorem Grow.text {w0 w : World} {v : Value} {l : List Int} (h : Grow w0 l v w) (s : ByteArray) (hs : l.length + s.size ≤ 1000000000) :
    ∃ v' w', (Builtin.append_ #[44, 9] 44 #[v, .string s]).run Tryd.prog w = .ok v' w' ∧ Grow w0 (l ++ bs s) v' w' := by
  obtain ⟨i0, hi, hz0, hz1, hz2⟩ := info_parts byte_info
  obtain ⟨v', w', h1, h2, h3, h4⟩ := Lib.run_append_own_string (P := Tryd.prog) w w0.heap.size 44 9 44 5 i0 Tryd.underlying44 Tryd.underlying9 hi hz0 hz1 hz2 v l.length (u8s l) ⟨h.own.1, by
      rcases h.own.2 with e | ⟨g, cap, cur, rfl, _, rest⟩
      · exact .inl e
      · exact .inr ⟨g, cap, cur, rfl, h.new_ g rfl, rest⟩⟩ s (by unfold maxLen; omega) (by omega) h.below.size
  refine ⟨v', w', h1, ⟨?_, fun g hg => (World.ownsRow.lt h2 g hg).1, h.below.grown h3 h.below.size h.new_⟩⟩
  unfold Own
  rw [List.length_append, bs_length, u8s_append, ← strCells_bs]
  refine ⟨h2.1, ?_⟩
  rcases h2.2 with e | ⟨g, cap, cur, e1, _, e3⟩
  · exact .inl e
  · exact .inr ⟨g, cap, cur, e1, Nat.zero_le _, e3⟩
/-- A row without bytes, with room. -/
theorem run_make_room (w : World) (c : Nat) (hc : c ≤ 1000000000) : ∃ w', (Instr.makeSlice 44 (.int .i64 0) (.int .i64 (c : Int))).run Tryd.prog w = .ok (.slice (some ⟨w.heap.size, 0, none⟩) 0 c) w' ∧ Grow w [] (.slice (some ⟨w.heap.size, 0, none⟩) 0 c) w' := by
  obtain ⟨i0, hi, hz0, hz1, hz2⟩ := info_parts byte_info
  obtain ⟨w', h1, h2, h3⟩ := run_make_own (P := Tryd.prog) w w.heap.size 44 5 i0 (.int .u8 0) 1 Tryd.underlying44 hi hz0 hz1 .i64 .i64 c (by rw [hz2]; omega) (by unfold maxLen; omega) (Nat.le_refl _)
  refine ⟨w', h1, ⟨?_, fun g hg => (World.ownsRow.lt h2 g hg).1, (Below.refl _ _).grown h3 (Nat.le_refl _) (fun k hk => by cases hk)⟩⟩
  refine ⟨h2.1, ?_⟩
  rcases h2.2 with e | ⟨g, cap, cur, e1, _, e3⟩
  · exact .inl e
  · exact .inr ⟨g, cap, cur, e1, Nat.zero_le _, e3⟩
/-- A text as bytes. -/
theorem run_bytes (w : World) (s : ByteArray) : ∃ cap w', (convert 9 44 (.string s)).run Tryd.prog w = .ok (.slice (some ⟨w.heap.size, 0, none⟩) s.size cap) w' ∧ Leads w' (some ⟨w.heap.size, 0, none⟩) (bs s) ∧ Below w.heap.size w w' ∧ s.size ≤ cap := by
  have hr := run_bytes_of_string (P := Tryd.prog) w 9 44 5 s Tryd.underlying9 Tryd.underlying44 Tryd.underlying5
  refine ⟨_, _, hr, ?_, ?_, grownCap_ge _ _ _ _⟩
  · refine .inr ⟨w.heap.size, 0, rfl, fun i hi => ?_⟩
    rw [bs_length] at hi
    rw [Nat.zero_add, cell_of_row _ w.heap.size i _ _ _ (heap_alloc_new w.drew _), bytesRow_at s _ i hi]
    have hi' : i < s.data.toList.length := by rw [Array.length_toList]; exact hi
    simp [bs, List.getD_eq_getElem?_getD, List.getElem?_map, List.getElem?_eq_getElem hi']
  · exact (below_draws (Below.refl _ _) 1).alloc (Nat.le_refl _) _

end Go.Proofs.YtpgclhpobijdeaaDoor.recd
/-
  CONTRACT of record.Encode (P6.1).
-/

namespace Go.Proofs.YtpgclhpobijdeaaDoor.recd
open Go.RowKit Go.Proofs.YtpgclhpobijdeaaDoor.num Go.Proofs.YtpgclhpobijdeaaDoor.disk

theorem Below.whole_at {W w : World} {g : Nat} {t : TypeId} {l : List Value} (h : Whole W g t l) (hb : Below W.heap.size W w) (i : Nat) : w.cell? ⟨g, i, none⟩ = l[i]? := (h.kept hb).at_ i

end Go.Proofs.YtpgclhpobijdeaaDoor.recd
/-
  CONTRACT of record.begins.
-/



namespace Go.Proofs.YtpgclhpobijdeaaDoor.recd
open Go.RowKit Go.Proofs.YtpgclhpobijdeaaDoor.num Go.Proofs.YtpgclhpobijdeaaDoor.disk

theorem run_str {w : World} {a : Option Addr} {l : List Int} (h : Leads w a l) (hb : Byte l) (c : Nat) : (convert 44 9 (.slice a l.length c)).run Tryd.prog w = .ok (.string (str l)) w := by
  rcases h with rfl | ⟨b, off, rfl, hc⟩
  · cases a with
    | none =>
      rw [run_convert_bytes_string w _ _ 5 _ _ c Tryd.underlying44 Tryd.underlying5 Tryd.underlying9]
      simp [Conv.bytesToString, str]
      rfl
    | some a => exact run_convert_bytes_back w 44 9 5 a c [] Tryd.underlying44 Tryd.underlying5 Tryd.underlying9 fun j hj => by cases hj
  · have := run_convert_bytes_back w 44 9 5 ⟨b, off, none⟩ c (l.map fun c => UInt8.ofNat c.toNat) Tryd.underlying44 Tryd.underlying5 Tryd.underlying9 fun j hj => by
      rw [List.length_map] at hj
      have hc' := hc j hj
      have hbj := hb.at hj
      rw [Addr.add_mid, hc']
      rw [List.getD_eq_getElem?_getD, List.getElem?_eq_getElem hj, Option.getD_some] at hbj ⊢
      rw [List.getElem_map]
      have e : ((UInt8.ofNat l[j].toNat).toNat : Int) = l[j] := by
        rw [UInt8.toNat_ofNat']
        omega
      rw [e]
    rw [List.length_map] at this
    exact this

theorem str_beq {x : List Int} (hx : Byte x) (s : ByteArray) : ((str x).toList == s.toList) = decide (x = bs s) := by
  by_cases h : x = bs s
  · subst h; rw [str_bs, decide_eq_true rfl]; exact beq_self_eq_true _
  · rw [decide_eq_false h]
    refine Bool.eq_false_iff.2 fun e => h ?_
    have e' := eq_of_beq e
    rw [ByteArray.toList_eq, ByteArray.toList_eq] at e'
    rw [← bs_str hx]
    unfold bs
    rw [e']
theorem mark_of : ∀ k, k ≤ 2 → bs ((⟨#[83, 82]⟩ : ByteArray).extract 0 k) = ([83, 82] : List Int).take k
  | 0, _ => by decide +kernel
  | 1, _ => by decide +kernel
  | 2, _ => by decide +kernel
  | _ + 3, h => by omega

end Go.Proofs.YtpgclhpobijdeaaDoor.recd
/-
  CONTRACT of record.head.
-/



namespace Go.Proofs.YtpgclhpobijdeaaDoor.recd
open Go.RowKit Go.Proofs.YtpgclhpobijdeaaDoor.num Go.Proofs.YtpgclhpobijdeaaDoor.disk

/-- 'b[p:q]' of bytes that are there. -/
theorem run_sub (g off n cap p q : Nat) (hp : p < q) (hq : q ≤ cap) (W : World) : (Instr.slice 44 (.slice (some ⟨g, off, none⟩) n cap) (some (.int .i64 (p : Int))) (some (.int .i64 (q : Int))) none).run Tryd.prog W = .ok (.slice (some ⟨g, off + p, none⟩) (q - p) (cap - p)) W := by
  have h := run_cut (some ⟨g, off, none⟩) n cap p q (by omega) hq W
  rw [cutAt, if_neg (by omega), Option.map_some, Addr.add_mid] at h
  exact h
def At (W : World) (g off : Nat) (l : List Int) : Prop := ∀ i, i < l.length → W.cell? ⟨g, off + i, none⟩ = some (.int .u8 (l.getD i 0))
theorem At.sub {W : World} {g off : Nat} {l : List Int} (h : At W g off l) (p q : Nat) (hpq : p < q) (hq : q ≤ l.length) : Leads W (some ⟨g, off + p, none⟩) (recd.sub l p q) := by
  refine .inr ⟨g, off + p, rfl, fun i hi => ?_⟩
  rw [sub_length l p q hq] at hi
  rw [Nat.add_assoc, h (p + i) (by omega)]
  unfold recd.sub
  rw [List.getD_eq_getElem?_getD, List.getD_eq_getElem?_getD, List.getElem?_take_of_lt (by omega), List.getElem?_drop]
theorem At.alloc {W : World} {g off : Nat} {l : List Int} (h : At W g off l) (o : Obj) : At (W.alloc o) g off l := fun i hi => by
  have h0 := h i hi
  have hlt : g < W.heap.size := by
    rcases Nat.lt_or_ge g W.heap.size with h' | h'
    · exact h'
    · simp [World.cell?, Array.getElem?_eq_none h'] at h0
  exact (World.cell?_of_block (a := ⟨g, off + i, none⟩) (heap_alloc_old W o hlt)).trans h0
theorem At.later {W w : World} {g off : Nat} {l : List Int} (h : At W g off l) (hb : Below W.heap.size W w) : At w g off l := fun i hi => by
  have h0 := h i hi
  have hlt : g < W.heap.size := by
    rcases Nat.lt_or_ge g W.heap.size with h' | h'
    · exact h'
    · simp [World.cell?, Array.getElem?_eq_none h'] at h0
  exact (hb.cell (p := ⟨g, off + i, none⟩) hlt).trans h0
theorem get_at (a : Option Addr) (n : Nat) (l : List Int) (hn : l.length = n) (cap : Nat) (w : World) (hB : Leads w a l) (hb : Byte l) (hl : n ≤ 8) (hc : n ≤ cap) :
    Calls Tryd.prog 66 #[.slice a n cap] w fun e w' => e = .returned (.int .u64 ((val l : Nat) : Int)) ∧ w = w' := by
  subst hn; exact get_any a l cap w hB hb hl hc

end Go.Proofs.YtpgclhpobijdeaaDoor.recd
/-
  CONTRACT of record.Decode (P6.1).
-/

namespace Go.Proofs.YtpgclhpobijdeaaDoor.recd
open Go.RowKit Go.Proofs.YtpgclhpobijdeaaDoor.num Go.Proofs.YtpgclhpobijdeaaDoor.disk
set_option linter.unusedVariables false

/-- What Decode answers with, as values. -/
def decV (x : Rec × Nat × Int) : Value := .tuple #[x.1.val, .int .i64 (x.2.1 : Nat), .int .i64 x.2.2]
def DecOut (w : World) (x : Rec × Nat × Int) (e : Ending) (w' : World) : Prop := e = .returned (decV x) ∧ Below w.heap.size w w'

theorem run_front (g off n cap q : Nat) (hq : q ≤ cap) (W : World) : (Instr.slice 44 (.slice (some ⟨g, off, none⟩) n cap) none (some (.int .i64 (q : Int))) none).run Tryd.prog W = .ok (.slice (some ⟨g, off, none⟩) q cap) W := by
  rw [run_slice_h W 44 _ n cap (by rw [byte_elem]; exact Tryd.underlying44) .i64 (q : Int) (by omega) (by omega), byte_elem, byte_sizeOf]
  simp [Result.andThen, sliced, Addr.add_mid]
theorem At.take {W : World} {g off : Nat} {l : List Int} (h : At W g off l) (n : Nat) : At W g off (l.take n) := fun i hi => by
  rw [List.length_take] at hi
  rw [h i (by omega), List.getD_eq_getElem?_getD, List.getD_eq_getElem?_getD, List.getElem?_take_of_lt (by omega)]
theorem At.leads {W : World} {g off : Nat} {l : List Int} (h : At W g off l) : Leads W (some ⟨g, off, none⟩) l := .inr ⟨g, off, rfl, h⟩
theorem sub_take (l : List Int) (n p q : Nat) (h : q ≤ n) : sub (l.take n) p q = sub l p q := by
  unfold sub
  rw [List.drop_take, List.take_take, show min (q - p) (n - p) = q - p by omega]
theorem headOf_take (l : List Int) : headOf (l.take 39) = headOf l := by
  unfold headOf
  rw [sub_take l 39 2 3 (by omega), sub_take l 39 3 7 (by omega), sub_take l 39 7 15 (by omega), sub_take l 39 15 23 (by omega), sub_take l 39 23 31 (by omega)]
theorem lenOf_take (l : List Int) : lenOf (l.take 39) = lenOf l := by
  unfold lenOf
  rw [sub_take l 39 31 35 (by omega)]
theorem sumOf_lt (l : List Int) : sumOf l < 4294967296 := (crc.sum l).isLt
theorem lenOf_lt {l : List Int} (hb : Byte l) (h : 39 ≤ l.length) : lenOf l < 4294967296 := by
  have := val_lt 4 (sub l 31 35) (sub_length l 31 35 (by omega)) (sub_byte hb 31 35)
  rwa [show (256 : Nat) ^ 4 = 4294967296 by decide] at this

end Go.Proofs.YtpgclhpobijdeaaDoor.recd
/-
  PLAIN MATHEMATICS OF RECORDS READ BACK (P6.1): what the bytes of a record tell; a record that is cut. No program stands in it.
-/

namespace Go.Proofs.YtpgclhpobijdeaaDoor.recd
open Go.RowKit Go.Proofs.YtpgclhpobijdeaaDoor.num Go.Proofs.YtpgclhpobijdeaaDoor.disk

theorem sub_mid (a m c : List Int) (p q : Nat) (hp : a.length = p) (hq : a.length + m.length = q) : sub (a ++ (m ++ c)) p q = m := by
  subst hp hq
  unfold sub
  rw [List.drop_left, show a.length + m.length - a.length = m.length by omega, List.take_left]
section
variable (r : Rec)
theorem enc_kind : sub (encL r) 2 3 = be r.kind.toNat 1 := by
  have e : encL r = [83, 82] ++ (be r.kind.toNat 1 ++ (be r.tenant 4 ++ be r.epoch 8 ++ be r.object 8 ++ be r.seq 8 ++ be r.body.size 4 ++ be (sumOf (numL r ++ bs r.body)) 4 ++ bs r.body)) := by simp only [encL, numL, List.append_assoc]
  rw [e]; exact sub_mid _ _ _ _ _ rfl (by simp [be_length])
theorem enc_tenant : sub (encL r) 3 7 = be r.tenant 4 := by
  have e : encL r = ([83, 82] ++ be r.kind.toNat 1) ++ (be r.tenant 4 ++ (be r.epoch 8 ++ be r.object 8 ++ be r.seq 8 ++ be r.body.size 4 ++ be (sumOf (numL r ++ bs r.body)) 4 ++ bs r.body)) := by simp only [encL, numL, List.append_assoc]
  rw [e]; exact sub_mid _ _ _ _ _ (by simp [be_length]) (by simp [be_length])
theorem enc_epoch : sub (encL r) 7 15 = be r.epoch 8 := by
  have e : encL r = ([83, 82] ++ be r.kind.toNat 1 ++ be r.tenant 4) ++ (be r.epoch 8 ++ (be r.object 8 ++ be r.seq 8 ++ be r.body.size 4 ++ be (sumOf (numL r ++ bs r.body)) 4 ++ bs r.body)) := by simp only [encL, numL, List.append_assoc]
  rw [e]; exact sub_mid _ _ _ _ _ (by simp [be_length]) (by simp [be_length])
theorem enc_object : sub (encL r) 15 23 = be r.object 8 := by
  have e : encL r = ([83, 82] ++ be r.kind.toNat 1 ++ be r.tenant 4 ++ be r.epoch 8) ++ (be r.object 8 ++ (be r.seq 8 ++ be r.body.size 4 ++ be (sumOf (numL r ++ bs r.body)) 4 ++ bs r.body)) := by simp only [encL, numL, List.append_assoc]
  rw [e]; exact sub_mid _ _ _ _ _ (by simp [be_length]) (by simp [be_length])
theorem enc_seq : sub (encL r) 23 31 = be r.seq 8 := by
  have e : encL r = ([83, 82] ++ be r.kind.toNat 1 ++ be r.tenant 4 ++ be r.epoch 8 ++ be r.object 8) ++ (be r.seq 8 ++ (be r.body.size 4 ++ be (sumOf (numL r ++ bs r.body)) 4 ++ bs r.body)) := by simp only [encL, numL, List.append_assoc]
  rw [e]; exact sub_mid _ _ _ _ _ (by simp [be_length]) (by simp [be_length])
theorem enc_size : sub (encL r) 31 35 = be r.body.size 4 := by
  have e : encL r = ([83, 82] ++ be r.kind.toNat 1 ++ be r.tenant 4 ++ be r.epoch 8 ++ be r.object 8 ++ be r.seq 8) ++ (be r.body.size 4 ++ (be (sumOf (numL r ++ bs r.body)) 4 ++ bs r.body)) := by simp only [encL, numL, List.append_assoc]
  rw [e]; exact sub_mid _ _ _ _ _ (by simp [be_length]) (by simp [be_length])
theorem enc_nums : sub (encL r) 0 35 = numL r := by
  have e : encL r = [] ++ (numL r ++ (be (sumOf (numL r ++ bs r.body)) 4 ++ bs r.body)) := by simp only [encL, List.nil_append, List.append_assoc]
  rw [e]; exact sub_mid _ _ _ _ _ rfl (by simp [numL_length])
theorem enc_sum : sub (encL r) 35 39 = be (sumOf (numL r ++ bs r.body)) 4 := by
  have e : encL r = numL r ++ (be (sumOf (numL r ++ bs r.body)) 4 ++ bs r.body) := by simp only [encL, List.append_assoc]
  rw [e]; exact sub_mid _ _ _ _ _ (numL_length r) (by simp [numL_length, be_length])
theorem enc_body : sub (encL r) 39 (39 + r.body.size) = bs r.body := by
  have e : encL r = (numL r ++ be (sumOf (numL r ++ bs r.body)) 4) ++ (bs r.body ++ []) := by simp only [encL, List.append_nil]
  rw [e]; exact sub_mid _ _ _ _ _ (by simp [numL_length, be_length]) (by simp only [List.length_append, numL_length, be_length, bs_length])
end
/-- The numbers are those of one that may be. -/
theorem May.of {r : Rec} (h : mayB r = true) : (1 ≤ r.kind ∧ r.kind ≤ 4) ∧ r.epoch ≤ 1099511627776 ∧ r.object ≤ 1099511627776 ∧ r.seq ≤ 1099511627776 ∧ r.body.size ≤ 1000 := by
  unfold mayB numB isKindB at h
  simp only [Bool.and_eq_true, decide_eq_true_eq] at h
  exact ⟨h.1.1, h.1.2.1, h.1.2.2.1, h.1.2.2.2, h.2⟩
theorem head_enc (r : Rec) (h : mayB r = true) (ht : r.tenant < 4294967296) : headOf (encL r) = { r with body := ByteArray.empty } := by
  obtain ⟨⟨k1, k2⟩, h1, h2, h3, _⟩ := May.of h
  unfold headOf
  rw [enc_kind, enc_tenant, enc_epoch, enc_object, enc_seq, val_be 1 _ (by omega), val_be 4 _ (by rw [show (256 : Nat) ^ 4 = 4294967296 by decide]; exact ht), val_be 8 _ (by rw [show (256 : Nat) ^ 8 = 18446744073709551616 by decide]; omega),
    val_be 8 _ (by rw [show (256 : Nat) ^ 8 = 18446744073709551616 by decide]; omega), val_be 8 _ (by rw [show (256 : Nat) ^ 8 = 18446744073709551616 by decide]; omega), show ((r.kind.toNat : Nat) : Int) = r.kind by omega]
theorem len_enc (r : Rec) (h : mayB r = true) : lenOf (encL r) = r.body.size := by
  obtain ⟨_, _, _, _, h4⟩ := May.of h
  unfold lenOf
  rw [enc_size, val_be 4 _ (by rw [show (256 : Nat) ^ 4 = 4294967296 by decide]; omega)]
theorem num_head {r : Rec} (h : mayB r = true) : numB { r with body := ByteArray.empty } = true := by
  have : numB { r with body := ByteArray.empty } = numB r := rfl
  rw [this]
  unfold mayB at h
  simp only [Bool.and_eq_true] at h
  exact h.1
theorem enc_front (r : Rec) (h : mayB r = true) : ∃ c rest, encL r = 83 :: 82 :: c :: rest ∧ isKindB c = true := by
  obtain ⟨⟨k1, k2⟩, _⟩ := May.of h
  refine ⟨((r.kind.toNat % 256 : Nat) : Int), be r.tenant 4 ++ be r.epoch 8 ++ be r.object 8 ++ be r.seq 8 ++ be r.body.size 4 ++ be (sumOf (numL r ++ bs r.body)) 4 ++ bs r.body, ?_, ?_⟩
  · simp [encL, numL, be]
  · unfold isKindB; rw [decide_eq_true_eq]; omega
theorem beg_take (r : Rec) (h : mayB r = true) (k : Nat) : begB ((encL r).take k) = true := by
  obtain ⟨c, rest, e, hc⟩ := enc_front r h
  rw [e]
  match k with
  | 0 => rfl
  | 1 => rfl
  | 2 => rfl
  | k + 3 =>
    simp only [List.take_succ_cons]
    unfold begB
    rw [show min (83 :: 82 :: c :: List.take k rest).length 2 = 2 by simp only [List.length_cons]; omega]
    have e1 : decide (List.take 2 (83 :: 82 :: c :: List.take k rest) = List.take 2 ([83, 82] : List Int)) = true := decide_eq_true rfl
    have e2 : isKindB ((83 :: 82 :: c :: List.take k rest).getD 2 0) = true := hc
    rw [e1, e2]
    simp
/-- A record's bytes are read back, whatever stands behind them. -/
theorem sub_front (a c : List Int) (p q : Nat) (h : q ≤ a.length) : sub (a ++ c) p q = sub a p q := by
  unfold sub
  by_cases hp : p ≤ a.length
  · rw [List.drop_append_of_le_length hp, List.take_append_of_le_length (by rw [List.length_drop]; omega)]
  · rw [show q - p = 0 by omega, List.take_zero, List.take_zero]
theorem dec_enc (r : Rec) (h : mayB r = true) (ht : r.tenant < 4294967296) : dec (encL r) = (r, 39 + r.body.size, 0) := by
  have hb := beg_take r h (encL r).length
  rw [List.take_length] at hb
  have hl := encL_length r
  obtain ⟨_, _, _, _, h4⟩ := May.of h
  have hs : sumOf (numL r ++ bs r.body) < 256 ^ 4 := by rw [show (256 : Nat) ^ 4 = 4294967296 by decide]; exact (crc.sum _).isLt
  unfold dec
  rw [if_neg (by rw [hb]; simp), if_neg (by omega), head_enc r h ht, len_enc r h, if_neg (by rw [num_head h]; simp; omega), if_neg (by omega), enc_nums, enc_body, enc_sum, val_be 4 _ hs, if_neg (by simp), str_bs]
theorem dec_cut (r : Rec) (h : mayB r = true) (ht : r.tenant < 4294967296) (k : Nat) (hk : k < (encL r).length) : dec ((encL r).take k) = (zeroRec, 0, 11) := by
  have hb := beg_take r h k
  have hl := encL_length r
  have hlen : ((encL r).take k).length = k := by rw [List.length_take]; omega
  obtain ⟨_, _, _, _, h4⟩ := May.of h
  unfold dec
  rw [if_neg (by rw [hb]; simp)]
  by_cases h1 : k < 39
  · rw [if_pos (by omega)]
  · have hsub : ∀ p q, q ≤ 39 → sub ((encL r).take k) p q = sub (encL r) p q := fun p q hq => by
      conv => rhs; rw [← List.take_append_drop k (encL r)]
      rw [sub_front _ _ _ _ (by omega)]
    have hh : headOf ((encL r).take k) = headOf (encL r) := by
      unfold headOf
      rw [hsub 2 3 (by omega), hsub 3 7 (by omega), hsub 7 15 (by omega), hsub 15 23 (by omega), hsub 23 31 (by omega)]
    have hn : lenOf ((encL r).take k) = lenOf (encL r) := by unfold lenOf; rw [hsub 31 35 (by omega)]
    rw [if_neg (by omega), hh, hn, head_enc r h ht, len_enc r h, if_neg (by rw [num_head h]; simp; omega), if_pos (by omega)]
end Go.Proofs.YtpgclhpobijdeaaDoor.recd
/-
  PLAIN MATHEMATICS OF A SPOILT RECORD (P6.1): a record of which one byte was changed, but for its length, is none. No program stands in it.
-/

namespace Go.Proofs.YtpgclhpobijdeaaDoor.recd
open Go.RowKit Go.Proofs.YtpgclhpobijdeaaDoor.num Go.Proofs.YtpgclhpobijdeaaDoor.disk
set_option linter.unusedVariables false

theorem step_inj {s t : BitVec 32} {c : Int} (h : crc.step s c = crc.step t c) : s = t := by
  unfold crc.step at h
  have h := crc.bits8_inj h
  have h2 := congrArg (· ^^^ BitVec.ofInt 32 c) h
  rwa [BitVec.xor_assoc, BitVec.xor_self, BitVec.xor_zero, BitVec.xor_assoc, BitVec.xor_self, BitVec.xor_zero] at h2
theorem run_inj : ∀ (b : List Int) {s t : BitVec 32}, crc.run s b = crc.run t b → s = t
  | [], _, _, h => h
  | _ :: b, _, _, h => step_inj (run_inj b h)
theorem step_byte {s : BitVec 32} {c d : Int} (hc : 0 ≤ c ∧ c < 256) (hd : 0 ≤ d ∧ d < 256) (h : crc.step s c = crc.step s d) : c = d := by
  unfold crc.step at h
  have h := crc.bits8_inj h
  have h2 := congrArg (s ^^^ ·) h
  rw [← BitVec.xor_assoc, ← BitVec.xor_assoc, BitVec.xor_self, BitVec.zero_xor, BitVec.zero_xor] at h2
  rw [← crc.toNat_byte hc, ← crc.toNat_byte hd, h2]
/-- A byte that is changed changes the sum. -/
theorem sum_set (l : List Int) (j : Nat) (hj : j < l.length) (y : Int) (hl : Byte l) (hy : 0 ≤ y ∧ y < 256) (hne : y ≠ l.getD j 0) : sumOf (l.set j y) ≠ sumOf l := by
  intro h
  unfold sumOf at h
  have h := BitVec.eq_of_toNat_eq h
  have e1 : l = l.take j ++ l.getD j 0 :: l.drop (j + 1) := by
    rw [List.getD_eq_getElem?_getD, List.getElem?_eq_getElem hj, Option.getD_some, ← List.drop_eq_getElem_cons hj, List.take_append_drop]
  have e2 : l.set j y = l.take j ++ y :: l.drop (j + 1) := by
    rw [List.set_eq_take_append_cons_drop, if_pos hj]
  have hb := hl.at hj
  rw [e2] at h
  conv at h => rhs; rw [e1]
  unfold crc.sum crc.more at h
  have h : crc.run (~~~ 0#32) (l.take j ++ y :: l.drop (j + 1)) = crc.run (~~~ 0#32) (l.take j ++ l.getD j 0 :: l.drop (j + 1)) := by
    have := congrArg (~~~ ·) h
    simpa using this
  unfold crc.run at h
  rw [List.foldl_append, List.foldl_append, List.foldl_cons, List.foldl_cons] at h
  exact hne (step_byte hy hb (run_inj _ h))
theorem val_inj {a b : List Int} (hl : a.length = b.length) (ha : Byte a) (hb : Byte b) (h : val a = val b) : a = b := by
  rw [← be_val a.length a rfl ha, h, hl, be_val b.length b rfl hb]
theorem sub_set_out (l : List Int) (k : Nat) (y : Int) (p q : Nat) (h : k < p ∨ q ≤ k) : sub (l.set k y) p q = sub l p q := by
  unfold sub
  rcases h with h | h
  · rw [List.drop_set, if_pos h]
  · by_cases hp : k < p
    · rw [List.drop_set, if_pos hp]
    · rw [List.drop_set, if_neg hp, List.take_set_of_le (by omega)]
theorem sub_set_in (l : List Int) (k : Nat) (y : Int) (p q : Nat) (h1 : p ≤ k) (h2 : k < q) : sub (l.set k y) p q = (sub l p q).set (k - p) y := by
  unfold sub
  rw [List.drop_set, if_neg (by omega), List.take_set]
theorem sub_getD (l : List Int) (p q k : Nat) (h1 : p ≤ k) (h2 : k < q) : (sub l p q).getD (k - p) 0 = l.getD k 0 := by
  unfold sub
  rw [List.getD_eq_getElem?_getD, List.getElem?_take_of_lt (by omega), List.getElem?_drop, show p + (k - p) = k by omega, ← List.getD_eq_getElem?_getD]
theorem set_ne {l : List Int} {j : Nat} {y : Int} (hj : j < l.length) (hne : y ≠ l.getD j 0) : l.set j y ≠ l := by
  intro e
  have := congrArg (fun l => List.getD l j 0) e
  simp only [List.getD_eq_getElem?_getD, List.getElem?_set_self hj, Option.getD_some] at this
  rw [← List.getD_eq_getElem?_getD] at this
  exact hne this
/-- SPOILT: it is none. -/
theorem dec_spoilt (r : Rec) (h : mayB r = true) (ht : r.tenant < 4294967296) (k : Nat) (hk : k < (encL r).length) (hno : ¬ (31 ≤ k ∧ k < 35)) (y : Int) (hy : 0 ≤ y ∧ y < 256) (hne : y ≠ (encL r).getD k 0) : dec ((encL r).set k y) = (zeroRec, 0, 4) := by
  have hl := encL_length r
  have hB := encL_byte r
  have hlen : ((encL r).set k y).length = 39 + r.body.size := by rw [List.length_set, hl]
  obtain ⟨_, _, _, _, h4⟩ := May.of h
  have hs : sumOf (numL r ++ bs r.body) < 256 ^ 4 := by rw [show (256 : Nat) ^ 4 = 4294967296 by decide]; exact (crc.sum _).isLt
  cases hbeg : begB ((encL r).set k y)
  · unfold dec; rw [if_pos hbeg]
  · -- the two letters are whole
    have hk2 : 2 ≤ k := by
      refine Nat.le_of_not_lt fun hlt => ?_
      obtain ⟨c, rest, e, _⟩ := enc_front r h
      unfold begB at hbeg
      rw [hlen, show min (39 + r.body.size) 2 = 2 by omega] at hbeg
      simp only [Bool.and_eq_true, decide_eq_true_eq] at hbeg
      have h1 := hbeg.1
      rw [e] at h1 hne
      match k, hlt with
      | 0, _ => simp at h1 hne; exact hne h1
      | 1, _ => simp at h1 hne; exact hne h1
    have hlo : lenOf ((encL r).set k y) = r.body.size := by
      unfold lenOf
      rw [sub_set_out _ _ _ _ _ (by omega)]
      exact len_enc r h
    unfold dec
    rw [if_neg (by rw [hbeg]; simp), if_neg (by omega), hlo]
    cases hnum : numB (headOf ((encL r).set k y))
    · rw [if_pos (.inl rfl)]
    · rw [if_neg (by simp; omega), if_neg (by omega), if_pos]
      by_cases h35 : 35 ≤ k ∧ k < 39
      · rw [sub_set_out _ _ _ 0 35 (by omega), sub_set_out _ _ _ 39 _ (by omega), enc_nums, enc_body, sub_set_in _ _ _ 35 39 h35.1 h35.2]
        intro e
        have hv : val (sub (encL r) 35 39) = sumOf (numL r ++ bs r.body) := by rw [enc_sum, val_be 4 _ hs]
        rw [← hv] at e
        have hlx : (sub (encL r) 35 39).length = 4 := sub_length _ 35 39 (by omega)
        have := val_inj (by rw [List.length_set]) (sub_byte hB 35 39) (fun c hc => by
          rcases List.mem_or_eq_of_mem_set hc with hc | rfl
          · exact sub_byte hB 35 39 c hc
          · exact hy) e
        exact set_ne (by rw [hlx]; omega) (by rw [sub_getD _ 35 39 k h35.1 h35.2]; exact hne) this.symm
      · rw [sub_set_out _ _ _ 35 39 (by omega), enc_sum, val_be 4 _ hs]
        by_cases hlow : k < 35
        · rw [sub_set_out _ _ _ 39 _ (by omega), enc_body, sub_set_in _ _ _ 0 35 (by omega) hlow, enc_nums, Nat.sub_zero]
          have e : (numL r).set k y ++ bs r.body = (numL r ++ bs r.body).set k y := by rw [List.set_append_left _ _ (by rw [numL_length]; exact hlow)]
          rw [e]
          refine sum_set _ _ (by rw [List.length_append, numL_length]; omega) _ ((numL_byte r).append (bs_byte _)) hy ?_
          have hg := sub_getD (encL r) 0 35 k (by omega) hlow
          rw [enc_nums, Nat.sub_zero] at hg
          rw [List.getD_eq_getElem?_getD, List.getElem?_append_left (by rw [numL_length]; exact hlow), ← List.getD_eq_getElem?_getD, hg]
          exact hne
        · rw [sub_set_out _ _ _ 0 35 (by omega), enc_nums, sub_set_in _ _ _ 39 _ (by omega) (by omega), enc_body]
          have e : numL r ++ (bs r.body).set (k - 39) y = (numL r ++ bs r.body).set (k - 4) y := by
            rw [List.set_append_right _ _ (by rw [numL_length]; omega), numL_length, show k - 4 - 35 = k - 39 by omega]
          rw [e]
          refine sum_set _ _ (by rw [List.length_append, numL_length, bs_length]; omega) _ ((numL_byte r).append (bs_byte _)) hy ?_
          have hg := sub_getD (encL r) 39 (39 + r.body.size) k (by omega) (by omega)
          rw [enc_body] at hg
          rw [List.getD_eq_getElem?_getD, List.getElem?_append_right (by rw [numL_length]; omega), numL_length, show k - 4 - 35 = k - 39 by omega, ← List.getD_eq_getElem?_getD, hg]
          exact hne
end Go.Proofs.YtpgclhpobijdeaaDoor.recd
/-
  PLAIN MATHEMATICS OF THE REFERENCE's Decode (P6.1): a record written again is what was read just if its sum is right. No program stands in it.
-/

namespace Go.Proofs.YtpgclhpobijdeaaDoor.recd
open Go.RowKit Go.Proofs.YtpgclhpobijdeaaDoor.num Go.Proofs.YtpgclhpobijdeaaDoor.disk
set_option linter.unusedVariables false

theorem sub_join (l : List Int) (p q r : Nat) (h1 : p ≤ q) (h2 : q ≤ r) : sub l p q ++ sub l q r = sub l p r := by
  unfold sub
  have e : l.drop q = (l.drop p).drop (q - p) := by rw [List.drop_drop, show p + (q - p) = q by omega]
  rw [e, show r - p = (q - p) + (r - q) by omega, List.take_add]
theorem sub_zero (l : List Int) (q : Nat) : sub l 0 q = l.take q := by unfold sub; rw [List.drop_zero, Nat.sub_zero]
/-- The record that bytes tell of, whole. -/
def full (l : List Int) : Rec := { headOf l with body := str (sub l 39 (39 + lenOf l)) }
section
variable {l : List Int}
theorem be_sub (hb : Byte l) (p q : Nat) (h : p ≤ q) (hq : q ≤ l.length) : be (val (sub l p q)) (q - p) = sub l p q := be_val (q - p) _ (sub_length l p q hq) (sub_byte hb p q)
theorem full_size (hn : 39 + lenOf l ≤ l.length) : (full l).body.size = lenOf l := by
  show (str (sub l 39 (39 + lenOf l))).size = lenOf l
  rw [str_size, sub_length l 39 (39 + lenOf l) hn]; omega
theorem full_may (h3 : numB (headOf l) = true) (h4 : lenOf l ≤ 1000) (hn : 39 + lenOf l ≤ l.length) : mayB (full l) = true := by
  unfold mayB
  rw [show numB (full l) = true from h3, full_size hn]
  simpa using h4
theorem full_nums (hb : Byte l) (h1 : begB l = true) (hn : 39 + lenOf l ≤ l.length) : numL (full l) = sub l 0 35 := by
  unfold numL
  rw [full_size hn]
  have e0 : ([83, 82] : List Int) = sub l 0 2 := by
    unfold begB at h1
    simp only [Bool.and_eq_true, decide_eq_true_eq] at h1
    have h := h1.1
    rw [Nat.min_eq_right (by omega)] at h
    rw [sub_zero, h]; rfl
  have e1 : be (full l).kind.toNat 1 = sub l 2 3 := by
    have := be_sub hb 2 3 (by omega) (by omega)
    show be ((val (sub l 2 3) : Nat) : Int).toNat 1 = _
    rw [Int.toNat_natCast]; exact this
  have e2 : be (full l).tenant 4 = sub l 3 7 := be_sub hb 3 7 (by omega) (by omega)
  have e3 : be (full l).epoch 8 = sub l 7 15 := be_sub hb 7 15 (by omega) (by omega)
  have e4 : be (full l).object 8 = sub l 15 23 := be_sub hb 15 23 (by omega) (by omega)
  have e5 : be (full l).seq 8 = sub l 23 31 := be_sub hb 23 31 (by omega) (by omega)
  have e6 : be (lenOf l) 4 = sub l 31 35 := be_sub hb 31 35 (by omega) (by omega)
  rw [e0, e1, e2, e3, e4, e5, e6, sub_join l 0 2 3 (by omega) (by omega), sub_join l 0 3 7 (by omega) (by omega), sub_join l 0 7 15 (by omega) (by omega), sub_join l 0 15 23 (by omega) (by omega), sub_join l 0 23 31 (by omega) (by omega), sub_join l 0 31 35 (by omega) (by omega)]
theorem full_enc (hb : Byte l) (h1 : begB l = true) (hn : 39 + lenOf l ≤ l.length) : encL (full l) = l.take (39 + lenOf l) ↔ sumOf (sub l 0 35 ++ sub l 39 (39 + lenOf l)) = val (sub l 35 39) := by
  have e : encL (full l) = sub l 0 35 ++ be (sumOf (sub l 0 35 ++ sub l 39 (39 + lenOf l))) 4 ++ sub l 39 (39 + lenOf l) := by
    unfold encL
    rw [full_nums hb h1 hn, show bs (full l).body = sub l 39 (39 + lenOf l) from bs_str (sub_byte hb _ _)]
  have e2 : l.take (39 + lenOf l) = sub l 0 35 ++ sub l 35 39 ++ sub l 39 (39 + lenOf l) := by
    rw [sub_join l 0 35 39 (by omega) (by omega), sub_join l 0 39 _ (by omega) (by omega), sub_zero]
  rw [e, e2]
  constructor
  · intro h
    have h := List.append_cancel_right h
    have h := List.append_cancel_left h
    rw [← h, val_be 4 _ (by rw [show (256 : Nat) ^ 4 = 4294967296 by decide]; exact (crc.sum _).isLt)]
  · intro h
    have h5 : be (val (sub l 35 39)) 4 = sub l 35 39 := be_sub hb 35 39 (by omega) (by omega)
    rw [h, h5]
end
end Go.Proofs.YtpgclhpobijdeaaDoor.recd
