/-
  JOINED: RcMath RcMay RcGrow RcEnc RcBegins RcHead RcDec RcDecMath RcLaw RcLawB RcREnc RcSpMath RcRMath.
-/
import Derived.Test.YtdonblfidohncaaGreatDoorMBase
import Derived.Lib.AppendStr
import Derived.Laws.IdiomStrings
import Derived.Laws.MakeOwn
import Derived.Deep.QuietTactic
import Derived.BigQuiet
import Derived.Deep.RegionHeld3
import Derived.Deep.RegionLaw
/-
  PLAIN MATHEMATICS OF RECORDS (P6.1): a record's numbers and Body, its bytes, what bytes begin with. No program stands in it.
-/



namespace Go.Proofs.YtdonblfidohncaaGreatDoor.recd
open Go.RowKit Go.Proofs.YtdonblfidohncaaGreatDoor.num Go.Proofs.YtdonblfidohncaaGreatDoor.disk

/-- A text's bytes, and bytes as a text. -/
def bs (s : ByteArray) : List Int := s.data.toList.map fun c => (c.toNat : Int)
def str (l : List Int) : ByteArray := ⟨(l.map fun c => UInt8.ofNat c.toNat).toArray⟩
theorem bs_length (s : ByteArray) : (bs s).length = s.size := by rw [bs, List.length_map, Array.length_toList]; rfl
theorem bs_byte (s : ByteArray) : Byte (bs s) := by
  intro c hc
  obtain ⟨x, _, rfl⟩ := List.mem_map.1 hc
  have := x.toNat_lt
  omega
theorem str_size (l : List Int) : (str l).size = l.length := by rw [str, show ∀ a : Array UInt8, (ByteArray.mk a).size = a.size from fun _ => rfl, List.size_toArray, List.length_map]
theorem bs_str {l : List Int} (h : Byte l) : bs (str l) = l := by
  unfold bs str
  simp only [List.map_map]
  conv => rhs; rw [← List.map_id l]
  apply List.map_congr_left
  intro c hc
  have := h c hc
  simp only [Function.comp, id, UInt8.toNat_ofNat']
  omega
theorem str_bs (s : ByteArray) : str (bs s) = s := by
  unfold bs str
  rw [List.map_map]
  have : (s.data.toList.map ((fun c : Int => UInt8.ofNat c.toNat) ∘ fun c : UInt8 => (c.toNat : Int))) = s.data.toList := by
    conv => rhs; rw [← List.map_id s.data.toList]
    apply List.map_congr_left
    intro c _
    simp
  rw [this]
theorem str_inj {a b : List Int} (ha : Byte a) (hb : Byte b) (h : str a = str b) : a = b := by rw [← bs_str ha, h, bs_str hb]
theorem bs_inj {s t : ByteArray} (h : bs s = bs t) : s = t := by rw [← str_bs s, h, str_bs]

structure Rec where
  kind : Int
  tenant : Nat
  epoch : Nat
  object : Nat
  seq : Nat
  body : ByteArray
deriving DecidableEq

def Rec.cells (r : Rec) : List Value := [.int .i64 r.kind, .int .u32 (r.tenant : Int), .int .u64 (r.epoch : Int), .int .u64 (r.object : Int), .int .u64 (r.seq : Int), .string r.body]
/-- Its numbers are of their types. -/
structure Rec.Fit (r : Rec) : Prop where
  kind : -9223372036854775808 ≤ r.kind ∧ r.kind ≤ 9223372036854775807
  tenant : r.tenant < 4294967296
  body : r.body.size ≤ maxLen

def isKindB (n : Int) : Bool := decide (1 ≤ n ∧ n ≤ 4)
def numB (r : Rec) : Bool := isKindB r.kind && decide (r.epoch ≤ 1099511627776 ∧ r.object ≤ 1099511627776 ∧ r.seq ≤ 1099511627776)
def mayB (r : Rec) : Bool := numB r && decide (r.body.size ≤ 1000)

/-- The 35 bytes of its numbers. -/
def numL (r : Rec) : List Int := [83, 82] ++ be r.kind.toNat 1 ++ be r.tenant 4 ++ be r.epoch 8 ++ be r.object 8 ++ be r.seq 8 ++ be r.body.size 4
def sumOf (l : List Int) : Nat := (crc.sum l).toNat
def encL (r : Rec) : List Int := numL r ++ be (sumOf (numL r ++ bs r.body)) 4 ++ bs r.body
/-- What Encode answers with. -/
def enc (r : Rec) : List Int := if mayB r then encL r else []

theorem numL_length (r : Rec) : (numL r).length = 35 := by simp [numL, be_length]
theorem encL_length (r : Rec) : (encL r).length = 39 + r.body.size := by simp only [encL, List.length_append, numL_length, be_length, bs_length]
theorem be_Byte (n k : Nat) : Byte (be n k) := be_byte k n
theorem numL_byte (r : Rec) : Byte (numL r) := by
  unfold numL
  refine ((((((Byte.append ?_ (be_Byte _ _)).append (be_Byte _ _)).append (be_Byte _ _)).append (be_Byte _ _)).append (be_Byte _ _)).append (be_Byte _ _))
  intro c hc
  simp at hc
  omega
theorem encL_byte (r : Rec) : Byte (encL r) := ((numL_byte r).append (be_Byte _ _)).append (bs_byte _)

/-! what bytes begin with -/
def sub (b : List Int) (p q : Nat) : List Int := (b.drop p).take (q - p)
theorem sub_length (b : List Int) (p q : Nat) (h : q ≤ b.length) : (sub b p q).length = q - p := by
  unfold sub; rw [List.length_take, List.length_drop]; omega
theorem sub_byte {b : List Int} (h : Byte b) (p q : Nat) : Byte (sub b p q) := (h.drop p).take _
def begB (b : List Int) : Bool := decide (b.take 2 = [83, 82].take (min b.length 2)) && (decide (b.length ≤ 2) || isKindB (b.getD 2 0))
def headOf (b : List Int) : Rec := ⟨(val (sub b 2 3) : Nat), val (sub b 3 7), val (sub b 7 15), val (sub b 15 23), val (sub b 23 31), ByteArray.empty⟩
def lenOf (b : List Int) : Nat := val (sub b 31 35)
def zeroRec : Rec := ⟨0, 0, 0, 0, 0, ByteArray.empty⟩
/-- What Decode answers with: the record, how many bytes, the error's number (0 none, 4 corrupt, 11 more). -/
def dec (b : List Int) : Rec × Nat × Int :=
  if begB b = false then (zeroRec, 0, 4)
  else if b.length < 39 then (zeroRec, 0, 11)
  else if numB (headOf b) = false ∨ 1000 < lenOf b then (zeroRec, 0, 4)
  else if b.length < 39 + lenOf b then (zeroRec, 0, 11)
  else if sumOf (sub b 0 35 ++ sub b 39 (39 + lenOf b)) ≠ val (sub b 35 39) then (zeroRec, 0, 4)
  else ({ headOf b with body := str (sub b 39 (39 + lenOf b)) }, 39 + lenOf b, 0)
end Go.Proofs.YtdonblfidohncaaGreatDoor.recd
/-
  CONTRACTS of record.isKind, mayNumbers, May.
-/



namespace Go.Proofs.YtdonblfidohncaaGreatDoor.recd
open Go.RowKit Go.Proofs.YtdonblfidohncaaGreatDoor.num Go.Proofs.YtdonblfidohncaaGreatDoor.disk

/-- A record, as a value. -/
def Rec.val (r : Rec) : Value := .agg #[.int .i64 r.kind, .int .u32 (r.tenant : Int), .int .u64 (r.epoch : Int), .int .u64 (r.object : Int), .int .u64 (r.seq : Int), .string r.body]

theorem ret_bool {a b : Bool} (h : a = b) : Ending.returned (.bool a) = .returned (.bool b) := by rw [h]
theorem isKind_any (n : Int) (w : World) : Calls Tryz.prog 102 #[.int .i64 n] w fun e w' => e = .returned (.bool (isKindB n)) ∧ w = w' := by
  by_cases h1 : 1 ≤ n
  · by_cases h2 : n ≤ 4
    · go_enter Tryz.func102, Tryz.ntmps102
      go_wp2
      go_ret
      exact ⟨ret_bool (by simp [isKindB, h1, h2]), rfl⟩
    · go_enter Tryz.func102, Tryz.ntmps102
      go_wp2
      go_ret
      exact ⟨ret_bool (by simp [isKindB, h1, h2]), rfl⟩
  · go_enter Tryz.func102, Tryz.ntmps102
    go_wp2
    go_ret
    exact ⟨ret_bool (by simp [isKindB]; omega), rfl⟩

theorem mayNumbers_any (r : Rec) (w : World) : Calls Tryz.prog 90 #[r.val] w fun e w' => e = .returned (.bool (numB r)) ∧ Below w.heap.size w w' := by
  obtain ⟨k, t, e, o, s, b⟩ := r
  unfold Rec.val
  simp only
  have B : Hid (Below w.heap.size w (w.alloc (.cells #[.int .i64 k, .int .u32 (t : Int), .int .u64 (e : Int), .int .u64 (o : Int), .int .u64 (s : Int), .string b] 40))) := (Below.refl _ _).alloc (Nat.le_refl _) _
  cases hk : isKindB k
  · go_enter Tryz.func90, Tryz.ntmps90
    go_wp2_with fail
    refine (isKind_any _ _).mono ?_
    rintro en w' ⟨rfl, rfl⟩
    rw [hk]
    go_wp2
    go_ret
    exact ⟨ret_bool (by simp [numB, hk]), B.out⟩
  · by_cases h1 : (e : Int) ≤ 1099511627776
    · by_cases h2 : (o : Int) ≤ 1099511627776
      · by_cases h3 : (s : Int) ≤ 1099511627776
        · go_enter Tryz.func90, Tryz.ntmps90
          go_wp2_with fail
          refine (isKind_any _ _).mono ?_
          rintro en w' ⟨rfl, rfl⟩
          rw [hk]
          go_wp2
          go_ret
          have g1 : e ≤ 1099511627776 := by omega
          have g2 : o ≤ 1099511627776 := by omega
          have g3 : s ≤ 1099511627776 := by omega
          exact ⟨ret_bool (by simp [numB, hk, g1, g2, g3]), B.out⟩
        · go_enter Tryz.func90, Tryz.ntmps90
          go_wp2_with fail
          refine (isKind_any _ _).mono ?_
          rintro en w' ⟨rfl, rfl⟩
          rw [hk]
          go_wp2
          go_ret
          have g3 : ¬ s ≤ 1099511627776 := by omega
          exact ⟨ret_bool (by simp [numB, hk, g3]; omega), B.out⟩
      · go_enter Tryz.func90, Tryz.ntmps90
        go_wp2_with fail
        refine (isKind_any _ _).mono ?_
        rintro en w' ⟨rfl, rfl⟩
        rw [hk]
        go_wp2
        go_ret
        have g2 : ¬ o ≤ 1099511627776 := by omega
        exact ⟨ret_bool (by simp [numB, hk, g2]), B.out⟩
    · go_enter Tryz.func90, Tryz.ntmps90
      go_wp2_with fail
      refine (isKind_any _ _).mono ?_
      rintro en w' ⟨rfl, rfl⟩
      rw [hk]
      go_wp2
      go_ret
      have g1 : ¬ e ≤ 1099511627776 := by omega
      exact ⟨ret_bool (by simp [numB, hk, g1]), B.out⟩

theorem May_any (r : Rec) (w : World) (hf : r.Fit) : Calls Tryz.prog 66 #[r.val] w fun e w' => e = .returned (.bool (mayB r)) ∧ Below w.heap.size w w' := by
  have hb := hf.body
  unfold maxLen at hb
  clear hf
  have C := Lib.hid (mayNumbers_any r)
  cases hn : numB r
  · have F := Lib.hid (show mayB r = false by simp [mayB, hn])
    obtain ⟨k, t, e, o, s, b⟩ := r
    unfold Rec.val at C ⊢
    simp only at C hb ⊢
    go_enter Tryz.func66, Tryz.ntmps66
    go_wp2_with fail
    refine (C.out _).mono ?_
    rintro en w' ⟨rfl, bw⟩
    rw [hn]
    have BW := Lib.hid bw
    clear bw
    go_wp2
    go_ret
    exact ⟨ret_bool (by first | exact F.out.symm | (rw [F.out]; simpa using hsI)), ((Below.refl _ _).alloc (Nat.le_refl _) _).trans (BW.out.mono (by simp))⟩
  · by_cases hs : r.body.size ≤ 1000
    · have F := Lib.hid (show mayB r = true by simp [mayB, hn, hs])
      obtain ⟨k, t, e, o, s, b⟩ := r
      unfold Rec.val at C ⊢
      simp only at C hb hs ⊢
      go_enter Tryz.func66, Tryz.ntmps66
      go_wp2_with fail
      refine (C.out _).mono ?_
      rintro en w' ⟨rfl, bw⟩
      rw [hn]
      have cb := (bw.cell (p := ⟨w.heap.size, 5, none⟩) (by simp)).trans (cell_of_row _ w.heap.size 5 _ _ _ (heap_alloc_new w _))
      have hsI : (b.size : Int) ≤ 1000 := by omega
      have BW := Lib.hid bw
      clear bw
      go_wp2
      go_ret
      exact ⟨ret_bool (by first | exact F.out.symm | (rw [F.out]; simpa using hsI)), ((Below.refl _ _).alloc (Nat.le_refl _) _).trans (BW.out.mono (by simp))⟩
    · have F := Lib.hid (show mayB r = false by simp [mayB, hn, hs])
      obtain ⟨k, t, e, o, s, b⟩ := r
      unfold Rec.val at C ⊢
      simp only at C hb hs ⊢
      go_enter Tryz.func66, Tryz.ntmps66
      go_wp2_with fail
      refine (C.out _).mono ?_
      rintro en w' ⟨rfl, bw⟩
      rw [hn]
      have cb := (bw.cell (p := ⟨w.heap.size, 5, none⟩) (by simp)).trans (cell_of_row _ w.heap.size 5 _ _ _ (heap_alloc_new w _))
      have hsI : ¬ (b.size : Int) ≤ 1000 := by omega
      have BW := Lib.hid bw
      clear bw
      go_wp2
      go_ret
      exact ⟨ret_bool (by first | exact F.out.symm | (rw [F.out]; simpa using hsI)), ((Below.refl _ _).alloc (Nat.le_refl _) _).trans (BW.out.mono (by simp))⟩
end Go.Proofs.YtdonblfidohncaaGreatDoor.recd
/-
  A ROW OF BYTES THAT GROWS: what is appended to it (what a call made; a text), the world meanwhile; a text as bytes.
-/




namespace Go.Proofs.YtdonblfidohncaaGreatDoor.recd
open Go.RowKit Go.Proofs.YtdonblfidohncaaGreatDoor.num Go.Proofs.YtdonblfidohncaaGreatDoor.disk

/-- A row of one's own, made behind w0. -/
structure Grow (w0 : World) (l : List Int) (v : Value) (w : World) : Prop where
  own : Own w v l
  new_ : ∀ g, v.ownBlock = some g → w0.heap.size ≤ g
  below : Below w0.heap.size w0 w

theorem Grow.step {w0 w w1 w' : World} {v v' : Value} {l m : List Int} (h : Grow w0 l v w) (hb : Below w.heap.size w w1) (ho : Own w' v' (l ++ m)) (hg : w1.grownBy w' v.ownBlock) (hv : v'.ownBlock = v.ownBlock ∨ v'.ownBlock = some w1.heap.size) : Grow w0 (l ++ m) v' w' := by
  have b1 : Below w0.heap.size w0 w1 := h.below.trans (hb.mono h.below.size)
  refine ⟨ho, fun g hgg => ?_, b1.grown hg b1.size h.new_⟩
  rcases hv with hv | hv
  · exact h.new_ g (by rw [← hv]; exact hgg)
  · rw [hv] at hgg
    injection hgg with hgg
    have := b1.size
    omega
theorem Grow.later {w0 w w1 : World} {v : Value} {l : List Int} (h : Grow w0 l v w) (hb : Below w.heap.size w w1) : Grow w0 l v w1 := ⟨h.own.later hb, h.new_, h.below.trans (hb.mono h.below.size)⟩
/-- What a call made is appended. -/
theorem Grow.put {w0 w w1 : World} {v : Value} {l m : List Int} {e : Ending} (h : Grow w0 l v w) (n : Nat) (hn : m.length = n) (hm : Made w m e w1) (hs : l.length + n ≤ 1000000000) :
    ∃ a cap v' w', e = .returned (.slice a n cap) ∧ (Builtin.append_ #[57, 57] 57 #[v, .slice a n cap]).run Tryz.prog w1 = .ok v' w' ∧ Grow w0 (l ++ m) v' w' := by
  subst hn
  obtain ⟨u, rfl, o, nb, bl⟩ := hm
  obtain ⟨a, cap, rfl, _, _, hn, hl, _⟩ := o.form
  obtain ⟨v', w', hr, ho, hg, hv⟩ := append_row (h.own.later bl) a m.length cap m hl rfl (fun e => (hn e).2) hs
  exact ⟨a, cap, v', w', rfl, hr, h.step bl ho hg hv⟩
/-- Bytes that are there are appended. -/
theorem Grow.row {w0 w : World} {v : Value} {l m : List Int} (h : Grow w0 l v w) (a : Option Addr) (n cap : Nat) (hl : Leads w a m) (hn : m.length = n) (ha : a = none → cap = 0) (hs : l.length + n ≤ 1000000000) :
    ∃ v' w', (Builtin.append_ #[57, 57] 57 #[v, .slice a n cap]).run Tryz.prog w = .ok v' w' ∧ Grow w0 (l ++ m) v' w' := by
  obtain ⟨v', w', hr, ho, hg, hv⟩ := append_row h.own a n cap m hl hn ha hs
  exact ⟨v', w', hr, h.step (Below.refl _ _) ho hg hv⟩
theorem strCells_bs (s : ByteArray) : Lib.strCells s = u8s (bs s) := by simp [Lib.strCells, u8s, bs]
/-- A text is appended. -/
theorem Grow.text {w0 w : World} {v : Value} {l : List Int} (h : Grow w0 l v w) (s : ByteArray) (hs : l.length + s.size ≤ 1000000000) :
    ∃ v' w', (Builtin.append_ #[57, 9] 57 #[v, .string s]).run Tryz.prog w = .ok v' w' ∧ Grow w0 (l ++ bs s) v' w' := by
  obtain ⟨i0, hi, hz0, hz1, hz2⟩ := info_parts byte_info
  obtain ⟨v', w', h1, h2, h3, h4⟩ := Lib.run_append_own_string (P := Tryz.prog) w w0.heap.size 57 9 57 5 i0 Tryz.underlying57 Tryz.underlying9 hi hz0 hz1 hz2 v l.length (u8s l) ⟨h.own.1, by
      rcases h.own.2 with e | ⟨g, cap, cur, rfl, _, rest⟩
      · exact .inl e
      · exact .inr ⟨g, cap, cur, rfl, h.new_ g rfl, rest⟩⟩ s (by unfold maxLen; omega) (by omega) h.below.size
  refine ⟨v', w', h1, ⟨?_, fun g hg => (World.ownsRow.lt h2 g hg).1, h.below.grown h3 h.below.size h.new_⟩⟩
  unfold Own
  rw [List.length_append, bs_length, u8s_append, ← strCells_bs]
  refine ⟨h2.1, ?_⟩
  rcases h2.2 with e | ⟨g, cap, cur, e1, _, e3⟩
  · exact .inl e
  · exact .inr ⟨g, cap, cur, e1, Nat.zero_le _, e3⟩
/-- A row without bytes, with room. -/
theorem run_make_room (w : World) (c : Nat) (hc : c ≤ 1000000000) : ∃ w', (Instr.makeSlice 57 (.int .i64 0) (.int .i64 (c : Int))).run Tryz.prog w = .ok (.slice (some ⟨w.heap.size, 0, none⟩) 0 c) w' ∧ Grow w [] (.slice (some ⟨w.heap.size, 0, none⟩) 0 c) w' := by
  obtain ⟨i0, hi, hz0, hz1, hz2⟩ := info_parts byte_info
  obtain ⟨w', h1, h2, h3⟩ := run_make_own (P := Tryz.prog) w w.heap.size 57 5 i0 (.int .u8 0) 1 Tryz.underlying57 hi hz0 hz1 .i64 .i64 c (by rw [hz2]; omega) (by unfold maxLen; omega) (Nat.le_refl _)
  refine ⟨w', h1, ⟨?_, fun g hg => (World.ownsRow.lt h2 g hg).1, (Below.refl _ _).grown h3 (Nat.le_refl _) (fun k hk => by cases hk)⟩⟩
  refine ⟨h2.1, ?_⟩
  rcases h2.2 with e | ⟨g, cap, cur, e1, _, e3⟩
  · exact .inl e
  · exact .inr ⟨g, cap, cur, e1, Nat.zero_le _, e3⟩
/-- A text as bytes. -/
theorem run_bytes (w : World) (s : ByteArray) : ∃ cap w', (convert 9 57 (.string s)).run Tryz.prog w = .ok (.slice (some ⟨w.heap.size, 0, none⟩) s.size cap) w' ∧ Leads w' (some ⟨w.heap.size, 0, none⟩) (bs s) ∧ Below w.heap.size w w' ∧ s.size ≤ cap := by
  have hr := run_bytes_of_string (P := Tryz.prog) w 9 57 5 s Tryz.underlying9 Tryz.underlying57 Tryz.underlying5
  refine ⟨_, _, hr, ?_, ?_, grownCap_ge _ _ _ _⟩
  · refine .inr ⟨w.heap.size, 0, rfl, fun i hi => ?_⟩
    rw [bs_length] at hi
    rw [Nat.zero_add, cell_of_row _ w.heap.size i _ _ _ (heap_alloc_new w.drew _), bytesRow_at s _ i hi]
    have hi' : i < s.data.toList.length := by rw [Array.length_toList]; exact hi
    simp [bs, List.getD_eq_getElem?_getD, List.getElem?_map, List.getElem?_eq_getElem hi']
  · exact (below_draws (Below.refl _ _) 1).alloc (Nat.le_refl _) _

theorem sum_any (w : World) (hT : crc.Tab w) (a b : Option Addr) (n m ca cb : Nat) (l k : List Int) (hl : Leads w a l) (hk : Leads w b k) (bl : Byte l) (bk : Byte k) (hn : l.length = n) (hm : k.length = m) (hn2 : n ≤ 1000000000) (hm2 : m ≤ 1000000000) :
    Calls Tryz.prog 68 #[.slice a n ca, .slice b m cb] w fun e w' => e = .returned (.int .u32 (sumOf (l ++ k) : Nat)) ∧ w = w' := by
  subst hn hm
  have c1 := crc.sum_any a l ca w hT hl bl (by omega)
  have c2 := crc.more_any (crc.sum l) b k cb w hT hk bk (by omega)
  rw [crc.more_sum] at c2
  generalize l.length = n at c1 hn2
  generalize k.length = m at c2 hm2
  unfold sumOf
  generalize crc.sum l = s1 at c1 c2
  generalize crc.sum (l ++ k) = s2 at c2
  have C1 := Lib.hid c1
  have C2 := Lib.hid c2
  clear c1 c2
  go_enter Tryz.func68, Tryz.ntmps68
  go_wp2_with fail
  refine C1.out.mono ?_
  rintro e w' ⟨rfl, rfl⟩
  go_wp2_with fail
  refine C2.out.mono ?_
  rintro e w' ⟨rfl, rfl⟩
  go_wp2
  go_ret
  exact ⟨rfl, rfl⟩
end Go.Proofs.YtdonblfidohncaaGreatDoor.recd
/-
  CONTRACT of record.Encode (P6.1).
-/

namespace Go.Proofs.YtdonblfidohncaaGreatDoor.recd
open Go.RowKit Go.Proofs.YtdonblfidohncaaGreatDoor.num Go.Proofs.YtdonblfidohncaaGreatDoor.disk

theorem Below.whole_at {W w : World} {g : Nat} {t : TypeId} {l : List Value} (h : Whole W g t l) (hb : Below W.heap.size W w) (i : Nat) : w.cell? ⟨g, i, none⟩ = l[i]? := (h.kept hb).at_ i

theorem enc_no (r : Rec) (w : World) (hf : r.Fit) (hm : mayB r = false) : Calls Tryz.prog 35 #[r.val] w (Made w []) := by
  have C := Lib.hid (fun W => May_any r W hf)
  obtain ⟨k, t, e, o, s, b⟩ := r
  unfold Rec.val at C ⊢
  simp only at C ⊢
  have HM := Lib.hid hm
  clear hm hf
  go_enter Tryz.func35, Tryz.ntmps35
  go_wp2_with fail
  refine (C.out _).mono ?_
  rintro en w' ⟨rfl, bw⟩
  rw [HM.out]
  have fin : Made w [] (.returned (.slice none 0 0)) w' := ⟨_, rfl, Own.none_ _, (fun g hg => by cases hg), ((Below.refl _ _).alloc (Nat.le_refl _) _).trans (bw.mono (by simp))⟩
  have F := Lib.hid fin
  clear bw fin
  go_wp2
  go_ret
  exact F.out

set_option maxRecDepth 100000 in
set_option maxHeartbeats 4000000 in
theorem enc_yes (r : Rec) (w : World) (hT : crc.Tab w) (hf : r.Fit) (hm : mayB r = true) : Calls Tryz.prog 35 #[r.val] w (Made w (encL r)) := by
  have hmb := hm
  unfold mayB numB isKindB at hmb
  simp only [Bool.and_eq_true, decide_eq_true_eq] at hmb
  obtain ⟨⟨⟨hk1, hk2⟩, -⟩, hbs⟩ := hmb
  have C := Lib.hid (fun W => May_any r W hf)
  obtain ⟨k, t, e, o, s, b⟩ := r
  simp only at hk1 hk2 hbs
  obtain ⟨kn, rfl⟩ := Int.eq_ofNat_of_zero_le (show 0 ≤ k by omega)
  have htn : (t : Int) < 4294967296 := by have := hf.tenant; simp only at this; omega
  unfold Rec.val at C ⊢
  simp only at C ⊢
  have hm' : mayB ⟨(kn : Int), t, e, o, s, b⟩ = true := hm
  have HM := Lib.hid hm'
  have hb1 : (b.size : Int) ≤ 1000 := by omega
  have hb0 : b.size ≤ 1000 := hbs
  clear hm hm' hf hbs
  go_enter Tryz.func35, Tryz.ntmps35
  go_wp2_with fail
  have wb : Whole (w.alloc (.cells #[.int .i64 (kn : Int), .int .u32 (t : Int), .int .u64 (e : Int), .int .u64 (o : Int), .int .u64 (s : Int), .string b] 40)) w.heap.size 40 [.int .i64 (kn : Int), .int .u32 (t : Int), .int .u64 (e : Int), .int .u64 (o : Int), .int .u64 (s : Int), .string b] := Whole.new_ rfl rfl
  have bb : Below w.heap.size w (w.alloc (.cells #[.int .i64 (kn : Int), .int .u32 (t : Int), .int .u64 (e : Int), .int .u64 (o : Int), .int .u64 (s : Int), .string b] 40)) := (Below.refl _ _).alloc (Nat.le_refl _) _
  refine (C.out _).mono ?_
  rintro en w1 ⟨rfl, bw⟩
  rw [HM.out]
  have W1 := Lib.hid (wb.kept bw)
  have B1 := Lib.hid (bb.trans (bw.mono bb.size))
  have T1 := Lib.hid ((hT.later bb).later bw)
  clear bw wb bb C hT
  obtain ⟨g, hg⟩ : ∃ g, w.heap.size = g := ⟨_, rfl⟩
  rw [hg] at W1 ⊢
  have HG := Lib.hid hg
  clear hg
  have ck : w1.cell? ⟨g, 5, none⟩ = some (.string b) := W1.out.at_ 5
  obtain ⟨w2, r2, g2⟩ := run_make_room w1 (39 + b.size) (by omega)
  rw [show ((39 + b.size : Nat) : Int) = 39 + (b.size : Int) by omega] at r2
  have G2 := Lib.hid g2
  clear g2
  obtain ⟨v3, w3, r3, g3⟩ := G2.out.text ⟨#[83, 82]⟩ (by show 0 + 2 ≤ _; omega)
  have R3 := Lib.hid r3
  have G3 := Lib.hid g3
  clear r3 g3
  obtain ⟨v2, hv2⟩ : ∃ v2, Value.slice (some ⟨w1.heap.size, 0, none⟩) 0 (39 + b.size) = v2 := ⟨_, rfl⟩
  rw [hv2] at r2 R3
  clear hv2
  obtain ⟨l3, e3⟩ : ∃ l, ([] ++ bs ⟨#[83, 82]⟩ : List Int) = l := ⟨_, rfl⟩
  have hl3 : l3.length = 2 := by rw [← e3]; rfl
  rw [e3] at G3
  have E3 := Lib.hid e3
  have HL3 := Lib.hid hl3
  have by3 : Byte l3 := by rw [← e3]; exact bs_byte _
  have BY3 := Lib.hid by3
  clear e3 hl3 by3
  go_wp2_with ((with_reducible show wpList _ _ _ _ _ _); refine wpList_append_run 9 (.tmp 12) (.const (.string ⟨#[83, 82]⟩)) _ _ rfl rfl rfl rfl rfl R3.out ?_; clear r2 ck; have ck : w3.cell? ⟨g, 0, none⟩ = some (.int .i64 (kn : Int)) := (W1.out.kept G3.out.below).at_ 0)
  clear ck
  refine (put_any kn 1 (by decide) w3).mono ?_
  rintro en wm hm
  obtain ⟨a4, c4, v4, w4, rfl, r4, g4⟩ := G3.out.put 1 (be_length _ _) hm (by rw [HL3.out]; decide)
  obtain ⟨l4, e4⟩ : ∃ l, l3 ++ be kn 1 = l := ⟨_, rfl⟩
  have hl4 : l4.length = 3 := by rw [← e4, List.length_append, HL3.out, be_length]
  rw [e4] at g4
  have R4 := Lib.hid r4
  have G4 := Lib.hid g4
  have E4 := Lib.hid e4
  have HL4 := Lib.hid hl4
  have by4 : Byte l4 := by rw [← e4]; exact BY3.out.append (be_Byte _ _)
  have BY4 := Lib.hid by4
  clear by4 hm r4 g4 e4 hl4
  go_wp2_with ((with_reducible show wpList _ _ _ _ _ _); refine wpList_append_run 57 (.tmp 14) (.tmp 18) _ _ rfl rfl rfl rfl rfl R4.out ?_; have ck : w4.cell? ⟨g, 1, none⟩ = some (.int .u32 (t : Int)) := (W1.out.kept G4.out.below).at_ 1)
  clear ck htn
  refine (put_any t 4 (by decide) w4).mono ?_
  rintro en wm hm
  obtain ⟨a5, c5, v5, w5, rfl, r5, g5⟩ := G4.out.put 4 (be_length _ _) hm (by rw [HL4.out]; decide)
  obtain ⟨l5, e5⟩ : ∃ l, l4 ++ be t 4 = l := ⟨_, rfl⟩
  have hl5 : l5.length = 7 := by rw [← e5, List.length_append, HL4.out, be_length]
  rw [e5] at g5
  have R5 := Lib.hid r5
  have G5 := Lib.hid g5
  have E5 := Lib.hid e5
  have HL5 := Lib.hid hl5
  have by5 : Byte l5 := by rw [← e5]; exact BY4.out.append (be_Byte _ _)
  have BY5 := Lib.hid by5
  clear by5 hm r5 g5 e5 hl5
  go_wp2_with ((with_reducible show wpList _ _ _ _ _ _); refine wpList_append_run 57 (.tmp 20) (.tmp 24) _ _ rfl rfl rfl rfl rfl R5.out ?_; have ck : w5.cell? ⟨g, 2, none⟩ = some (.int .u64 (e : Int)) := (W1.out.kept G5.out.below).at_ 2)
  clear ck
  refine (put_any e 8 (by decide) w5).mono ?_
  rintro en wm hm
  obtain ⟨a6, c6, v6, w6, rfl, r6, g6⟩ := G5.out.put 8 (be_length _ _) hm (by rw [HL5.out]; decide)
  obtain ⟨l6, e6⟩ : ∃ l, l5 ++ be e 8 = l := ⟨_, rfl⟩
  have hl6 : l6.length = 15 := by rw [← e6, List.length_append, HL5.out, be_length]
  rw [e6] at g6
  have R6 := Lib.hid r6
  have G6 := Lib.hid g6
  have E6 := Lib.hid e6
  have HL6 := Lib.hid hl6
  have by6 : Byte l6 := by rw [← e6]; exact BY5.out.append (be_Byte _ _)
  have BY6 := Lib.hid by6
  clear by6 hm r6 g6 e6 hl6
  go_wp2_with ((with_reducible show wpList _ _ _ _ _ _); refine wpList_append_run 57 (.tmp 26) (.tmp 29) _ _ rfl rfl rfl rfl rfl R6.out ?_; have ck : w6.cell? ⟨g, 3, none⟩ = some (.int .u64 (o : Int)) := (W1.out.kept G6.out.below).at_ 3)
  clear ck
  refine (put_any o 8 (by decide) w6).mono ?_
  rintro en wm hm
  obtain ⟨a7, c7, v7, w7, rfl, r7, g7⟩ := G6.out.put 8 (be_length _ _) hm (by rw [HL6.out]; decide)
  obtain ⟨l7, e7⟩ : ∃ l, l6 ++ be o 8 = l := ⟨_, rfl⟩
  have hl7 : l7.length = 23 := by rw [← e7, List.length_append, HL6.out, be_length]
  rw [e7] at g7
  have R7 := Lib.hid r7
  have G7 := Lib.hid g7
  have E7 := Lib.hid e7
  have HL7 := Lib.hid hl7
  have by7 : Byte l7 := by rw [← e7]; exact BY6.out.append (be_Byte _ _)
  have BY7 := Lib.hid by7
  clear by7 hm r7 g7 e7 hl7
  go_wp2_with ((with_reducible show wpList _ _ _ _ _ _); refine wpList_append_run 57 (.tmp 31) (.tmp 34) _ _ rfl rfl rfl rfl rfl R7.out ?_; have ck : w7.cell? ⟨g, 4, none⟩ = some (.int .u64 (s : Int)) := (W1.out.kept G7.out.below).at_ 4)
  clear ck
  refine (put_any s 8 (by decide) w7).mono ?_
  rintro en wm hm
  obtain ⟨a8, c8, v8, w8, rfl, r8, g8⟩ := G7.out.put 8 (be_length _ _) hm (by rw [HL7.out]; decide)
  obtain ⟨l8, e8⟩ : ∃ l, l7 ++ be s 8 = l := ⟨_, rfl⟩
  have hl8 : l8.length = 31 := by rw [← e8, List.length_append, HL7.out, be_length]
  rw [e8] at g8
  have R8 := Lib.hid r8
  have G8 := Lib.hid g8
  have E8 := Lib.hid e8
  have HL8 := Lib.hid hl8
  have by8 : Byte l8 := by rw [← e8]; exact BY7.out.append (be_Byte _ _)
  have BY8 := Lib.hid by8
  clear by8 hm r8 g8 e8 hl8
  go_wp2_with ((with_reducible show wpList _ _ _ _ _ _); refine wpList_append_run 57 (.tmp 36) (.tmp 39) _ _ rfl rfl rfl rfl rfl R8.out ?_; have ck : w8.cell? ⟨g, 5, none⟩ = some (.string b) := (W1.out.kept G8.out.below).at_ 5)
  clear ck
  refine (put_any b.size 4 (by decide) w8).mono ?_
  rintro en wm hm
  obtain ⟨a9, c9, v9, w9, rfl, r9, g9⟩ := G8.out.put 4 (be_length _ _) hm (by rw [HL8.out]; decide)
  obtain ⟨l9, e9⟩ : ∃ l, l8 ++ be b.size 4 = l := ⟨_, rfl⟩
  have hl9 : l9.length = 35 := by rw [← e9, List.length_append, HL8.out, be_length]
  rw [e9] at g9
  have R9 := Lib.hid r9
  have G9 := Lib.hid g9
  have E9 := Lib.hid e9
  have HL9 := Lib.hid hl9
  have by9 : Byte l9 := by rw [← e9]; exact BY8.out.append (be_Byte _ _)
  have BY9 := Lib.hid by9
  clear by9 hm r9 g9 e9 hl9
  obtain ⟨av, cv, ev, _, _, hn9, lv9, _⟩ := G9.out.own.form
  rw [HL9.out] at ev hn9
  subst ev
  obtain ⟨cb, w10, rb, lb, bb, hcb⟩ := run_bytes w9 b
  have LV := Lib.hid (lv9.later bb)
  have LB := Lib.hid lb
  have G10 := Lib.hid (G9.out.later bb)
  have T10 := Lib.hid ((T1.out.later G9.out.below).later bb)
  clear lv9 lb bb hn9
  go_wp2_with ((with_reducible show wpList _ _ _ _ _ _); refine wpList_append_run 57 (.tmp 41) (.tmp 46) _ _ rfl rfl rfl rfl rfl R9.out ?_; have ck : w9.cell? ⟨g, 5, none⟩ = some (.string b) := (W1.out.kept G9.out.below).at_ 5)
  refine (sum_any w10 T10.out av _ 35 b.size cv cb l9 (bs b) LV.out LB.out BY9.out (bs_byte b) HL9.out (bs_length b) (by decide) (by omega)).mono ?_
  rintro en w' ⟨rfl, rfl⟩
  clear rb
  obtain ⟨sm, hsm⟩ : ∃ sm, sumOf (l9 ++ bs b) = sm := ⟨_, rfl⟩
  have hsm1 : (sm : Int) < 4294967296 := by rw [← hsm]; unfold sumOf; have := (crc.sum (l9 ++ bs b)).isLt; omega
  rw [hsm]
  have HSM := Lib.hid hsm
  clear hsm
  go_wp2_with fail
  clear hsm1
  refine (put_any sm 4 (by decide) w10).mono ?_
  rintro en wm hm
  obtain ⟨a11, c11, v11, w11, rfl, r11, g11⟩ := G10.out.put 4 (be_length _ _) hm (by rw [HL9.out]; decide)
  have hl11 : (l9 ++ be sm 4).length = 39 := by rw [List.length_append, HL9.out, be_length]
  obtain ⟨v12, w12, r12, g12⟩ := g11.text b (by rw [hl11]; omega)
  have R11 := Lib.hid r11
  have R12 := Lib.hid r12
  have ck : w11.cell? ⟨g, 5, none⟩ = some (.string b) := (W1.out.kept g11.below).at_ 5
  have hB : Below w.heap.size w w12 := B1.out.trans (g12.below.mono (by have := B1.out.size; omega))
  have fin : Made w (encL ⟨(kn : Int), t, e, o, s, b⟩) (.returned v12) w12 := by
    refine ⟨_, rfl, ?_, fun g hg => Nat.le_trans B1.out.size (g12.new_ g hg), hB⟩
    have := g12.own
    rw [← HSM.out, ← E9.out, ← E8.out, ← E7.out, ← E6.out, ← E5.out, ← E4.out, ← E3.out] at this
    exact this
  have F := Lib.hid fin
  clear hm r11 g11 r12 g12 hB fin hl11
  go_wp2_with (first
    | ((with_reducible show wpList _ _ _ (⟨some 56, _, _, _, _, _⟩ :: _) _ _); refine wpList_append_run 57 (.tmp 48) (.tmp 55) _ _ rfl rfl rfl rfl rfl R11.out ?_)
    | ((with_reducible show wpList _ _ _ (⟨some 60, _, _, _, _, _⟩ :: _) _ _); refine wpList_append_run 9 (.tmp 57) (.tmp 59) _ _ rfl rfl rfl rfl rfl R12.out ?_))
  go_ret
  exact F.out

theorem Encode_any (r : Rec) (w : World) (hT : crc.Tab w) (hf : r.Fit) : Calls Tryz.prog 35 #[r.val] w (Made w (enc r)) := by
  unfold enc
  cases hm : mayB r
  · exact enc_no r w hf hm
  · exact enc_yes r w hT hf hm
end Go.Proofs.YtdonblfidohncaaGreatDoor.recd
/-
  CONTRACT of record.begins.
-/



namespace Go.Proofs.YtdonblfidohncaaGreatDoor.recd
open Go.RowKit Go.Proofs.YtdonblfidohncaaGreatDoor.num Go.Proofs.YtdonblfidohncaaGreatDoor.disk

theorem run_str {w : World} {a : Option Addr} {l : List Int} (h : Leads w a l) (hb : Byte l) (c : Nat) : (convert 57 9 (.slice a l.length c)).run Tryz.prog w = .ok (.string (str l)) w := by
  rcases h with rfl | ⟨b, off, rfl, hc⟩
  · cases a with
    | none =>
      rw [run_convert_bytes_string w _ _ 5 _ _ c Tryz.underlying57 Tryz.underlying5 Tryz.underlying9]
      simp [Conv.bytesToString, str]
      rfl
    | some a => exact run_convert_bytes_back w 57 9 5 a c [] Tryz.underlying57 Tryz.underlying5 Tryz.underlying9 fun j hj => by cases hj
  · have := run_convert_bytes_back w 57 9 5 ⟨b, off, none⟩ c (l.map fun c => UInt8.ofNat c.toNat) Tryz.underlying57 Tryz.underlying5 Tryz.underlying9 fun j hj => by
      rw [List.length_map] at hj
      have hc' := hc j hj
      have hbj := hb.at hj
      rw [Addr.add_mid, hc']
      rw [List.getD_eq_getElem?_getD, List.getElem?_eq_getElem hj, Option.getD_some] at hbj ⊢
      rw [List.getElem_map]
      have e : ((UInt8.ofNat l[j].toNat).toNat : Int) = l[j] := by
        rw [UInt8.toNat_ofNat']
        omega
      rw [e]
    rw [List.length_map] at this
    exact this

theorem str_beq {x : List Int} (hx : Byte x) (s : ByteArray) : ((str x).toList == s.toList) = decide (x = bs s) := by
  by_cases h : x = bs s
  · subst h; rw [str_bs, decide_eq_true rfl]; exact beq_self_eq_true _
  · rw [decide_eq_false h]
    refine Bool.eq_false_iff.2 fun e => h ?_
    have e' := eq_of_beq e
    rw [ByteArray.toList_eq, ByteArray.toList_eq] at e'
    rw [← bs_str hx]
    unfold bs
    rw [e']
theorem mark_of : ∀ k, k ≤ 2 → bs ((⟨#[83, 82]⟩ : ByteArray).extract 0 k) = ([83, 82] : List Int).take k
  | 0, _ => by decide +kernel
  | 1, _ => by decide +kernel
  | 2, _ => by decide +kernel
  | _ + 3, h => by omega

set_option maxHeartbeats 1000000 in
theorem begins_any (a : Option Addr) (n cap : Nat) (l : List Int) (w : World) (hl : Leads w a l) (hb : Byte l) (hn : l.length = n) (hc : n ≤ cap) :
    Calls Tryz.prog 88 #[.slice a n cap] w fun e w' => e = .returned (.bool (begB l)) ∧ ∃ q, w' = w.drewN q := by
  by_cases h2 : n ≤ 2
  · have h2I : (n : Int) ≤ 2 := by omega
    have hcv : ∀ q, (convert 57 9 (.slice a n cap)).run Tryz.prog (w.drewN q) = .ok (.string (str (l.take n))) (w.drewN q) := fun q => by
      have := run_str (w := w.drewN q) (a := a) (l := l.take n) (hl.take n) (hb.take n) cap
      rw [List.length_take, show min n l.length = n by omega] at this
      exact this
    have hmk : ((⟨#[83, 82]⟩ : ByteArray)).size = 2 := rfl
    have hbq := str_beq (hb.take n) ((⟨#[83, 82]⟩ : ByteArray).extract 0 n)
    rw [mark_of n (by omega)] at hbq
    have hbeg : begB l = (decide (l.take n = ([83, 82] : List Int).take n) && (decide (n ≤ 2) || isKindB (l.getD 2 0))) := by
      unfold begB
      rw [hn]
      congr 2
      rw [eq_iff_iff]
      rw [show min n 2 = n by omega, List.take_of_length_le (by omega : l.length ≤ 2), List.take_of_length_le (by omega : l.length ≤ n)]
    have HBEG := Lib.hid hbeg
    have h2c : n ≤ cap := by omega
    clear hbeg
    cases hq : decide (l.take n = ([83, 82] : List Int).take n)
    · rw [hq] at hbq
      clear hl
      go_enter Tryz.func88, Tryz.ntmps88
      go_wp2_with fail
      go_quiet (fail)
      go_wp2_with fail
      go_ret
      exact ⟨ret_bool (by rw [HBEG.out, hq]; rfl), _, rfl⟩
    · rw [hq] at hbq
      clear hl
      go_enter Tryz.func88, Tryz.ntmps88
      go_wp2_with fail
      go_quiet (fail)
      go_wp2_with fail
      go_ret
      exact ⟨ret_bool (by rw [HBEG.out, hq, decide_eq_true h2]; rfl), _, rfl⟩
  · have h2I : ¬ (n : Int) ≤ 2 := by omega
    have hcv : ∀ q, (convert 57 9 (.slice a 2 cap)).run Tryz.prog (w.drewN q) = .ok (.string (str (l.take 2))) (w.drewN q) := fun q => by
      have := run_str (w := w.drewN q) (a := a) (l := l.take 2) (hl.take 2) (hb.take 2) cap
      rw [List.length_take, show min 2 l.length = 2 by omega] at this
      exact this
    have hmk : ((⟨#[83, 82]⟩ : ByteArray)).size = 2 := rfl
    have hbq := str_beq (hb.take 2) ((⟨#[83, 82]⟩ : ByteArray).extract 0 2)
    rw [mark_of 2 (by omega)] at hbq
    have hbeg : begB l = (decide (l.take 2 = ([83, 82] : List Int).take 2) && (decide (n ≤ 2) || isKindB (l.getD 2 0))) := by
      unfold begB
      rw [hn]
      congr 2
      rw [eq_iff_iff]
      rw [show min n 2 = 2 by omega]
    have HBEG := Lib.hid hbeg
    have h2c : 2 ≤ cap := by omega
    clear hbeg
    cases hq : decide (l.take 2 = ([83, 82] : List Int).take 2)
    · rw [hq] at hbq
      clear hl
      go_enter Tryz.func88, Tryz.ntmps88
      go_wp2_with fail
      go_quiet (fail)
      go_wp2_with fail
      go_ret
      exact ⟨ret_bool (by rw [HBEG.out, hq]; rfl), _, rfl⟩
    · rw [hq] at hbq
      obtain ⟨g, off, rfl, hcl⟩ := hl.at_ (by omega)
      have ck := hcl 2 (by omega)
      have ckq : ∀ q, (w.drewN q).cell? ⟨g, off + 2, none⟩ = some (.int .u8 (l.getD 2 0)) := fun q => ck
      have hby := hb.at (i := 2) (by omega)
      have h2n : 2 < n := by omega
      obtain ⟨c, hcc⟩ : ∃ c, l.getD 2 0 = c := ⟨_, rfl⟩
      rw [hcc] at ckq hby HBEG
      clear ck hcl hcc hl
      go_enter Tryz.func88, Tryz.ntmps88
      go_wp2_with fail
      go_quiet (fail)
      go_wp2_with (go_at_call 102; refine (isKind_any c _).mono ?_; rintro e w' ⟨rfl, rfl⟩)
      go_ret
      exact ⟨ret_bool (by rw [HBEG.out, hq, decide_eq_false h2, decide_eq_false (by omega)]; rfl), _, rfl⟩
end Go.Proofs.YtdonblfidohncaaGreatDoor.recd
/-
  CONTRACT of record.head.
-/



namespace Go.Proofs.YtdonblfidohncaaGreatDoor.recd
open Go.RowKit Go.Proofs.YtdonblfidohncaaGreatDoor.num Go.Proofs.YtdonblfidohncaaGreatDoor.disk

/-- 'b[p:q]' of bytes that are there. -/
theorem run_sub (g off n cap p q : Nat) (hp : p < q) (hq : q ≤ cap) (W : World) : (Instr.slice 57 (.slice (some ⟨g, off, none⟩) n cap) (some (.int .i64 (p : Int))) (some (.int .i64 (q : Int))) none).run Tryz.prog W = .ok (.slice (some ⟨g, off + p, none⟩) (q - p) (cap - p)) W := by
  have h := run_cut (some ⟨g, off, none⟩) n cap p q (by omega) hq W
  rw [cutAt, if_neg (by omega), Option.map_some, Addr.add_mid] at h
  exact h
def At (W : World) (g off : Nat) (l : List Int) : Prop := ∀ i, i < l.length → W.cell? ⟨g, off + i, none⟩ = some (.int .u8 (l.getD i 0))
theorem At.sub {W : World} {g off : Nat} {l : List Int} (h : At W g off l) (p q : Nat) (hpq : p < q) (hq : q ≤ l.length) : Leads W (some ⟨g, off + p, none⟩) (recd.sub l p q) := by
  refine .inr ⟨g, off + p, rfl, fun i hi => ?_⟩
  rw [sub_length l p q hq] at hi
  rw [Nat.add_assoc, h (p + i) (by omega)]
  unfold recd.sub
  rw [List.getD_eq_getElem?_getD, List.getD_eq_getElem?_getD, List.getElem?_take_of_lt (by omega), List.getElem?_drop]
theorem At.alloc {W : World} {g off : Nat} {l : List Int} (h : At W g off l) (o : Obj) : At (W.alloc o) g off l := fun i hi => by
  have h0 := h i hi
  have hlt : g < W.heap.size := by
    rcases Nat.lt_or_ge g W.heap.size with h' | h'
    · exact h'
    · simp [World.cell?, Array.getElem?_eq_none h'] at h0
  exact (World.cell?_of_block (a := ⟨g, off + i, none⟩) (heap_alloc_old W o hlt)).trans h0
theorem At.later {W w : World} {g off : Nat} {l : List Int} (h : At W g off l) (hb : Below W.heap.size W w) : At w g off l := fun i hi => by
  have h0 := h i hi
  have hlt : g < W.heap.size := by
    rcases Nat.lt_or_ge g W.heap.size with h' | h'
    · exact h'
    · simp [World.cell?, Array.getElem?_eq_none h'] at h0
  exact (hb.cell (p := ⟨g, off + i, none⟩) hlt).trans h0
theorem get_at (a : Option Addr) (n : Nat) (l : List Int) (hn : l.length = n) (cap : Nat) (w : World) (hB : Leads w a l) (hb : Byte l) (hl : n ≤ 8) (hc : n ≤ cap) :
    Calls Tryz.prog 87 #[.slice a n cap] w fun e w' => e = .returned (.int .u64 ((val l : Nat) : Int)) ∧ w = w' := by
  subst hn; exact get_any a l cap w hB hb hl hc

set_option maxRecDepth 100000 in
set_option maxHeartbeats 1000000 in
theorem head_any (g off cap : Nat) (l : List Int) (w : World) (hl : At w g off l) (hb : Byte l) (hn : l.length = 39) (hc : 39 ≤ cap) :
    Calls Tryz.prog 89 #[.slice (some ⟨g, off, none⟩) 39 cap] w fun e w' => e = .returned (.tuple #[(headOf l).val, .int .i64 (lenOf l : Nat)]) ∧ Below w.heap.size w w' := by
  have s1 : ∀ W, (Instr.slice 57 (.slice (some ⟨g, off, none⟩) 39 cap) (some (.int .i64 2)) (some (.int .i64 3)) none).run Tryz.prog W = .ok (.slice (some ⟨g, off + 2, none⟩) 1 (cap - 2)) W := run_sub g off 39 cap 2 3 (by omega) (by omega)
  have s2 : ∀ W, (Instr.slice 57 (.slice (some ⟨g, off, none⟩) 39 cap) (some (.int .i64 3)) (some (.int .i64 7)) none).run Tryz.prog W = .ok (.slice (some ⟨g, off + 3, none⟩) 4 (cap - 3)) W := run_sub g off 39 cap 3 7 (by omega) (by omega)
  have s3 : ∀ W, (Instr.slice 57 (.slice (some ⟨g, off, none⟩) 39 cap) (some (.int .i64 7)) (some (.int .i64 15)) none).run Tryz.prog W = .ok (.slice (some ⟨g, off + 7, none⟩) 8 (cap - 7)) W := run_sub g off 39 cap 7 15 (by omega) (by omega)
  have s4 : ∀ W, (Instr.slice 57 (.slice (some ⟨g, off, none⟩) 39 cap) (some (.int .i64 15)) (some (.int .i64 23)) none).run Tryz.prog W = .ok (.slice (some ⟨g, off + 15, none⟩) 8 (cap - 15)) W := run_sub g off 39 cap 15 23 (by omega) (by omega)
  have s5 : ∀ W, (Instr.slice 57 (.slice (some ⟨g, off, none⟩) 39 cap) (some (.int .i64 23)) (some (.int .i64 31)) none).run Tryz.prog W = .ok (.slice (some ⟨g, off + 23, none⟩) 8 (cap - 23)) W := run_sub g off 39 cap 23 31 (by omega) (by omega)
  have s6 : ∀ W, (Instr.slice 57 (.slice (some ⟨g, off, none⟩) 39 cap) (some (.int .i64 31)) (some (.int .i64 35)) none).run Tryz.prog W = .ok (.slice (some ⟨g, off + 31, none⟩) 4 (cap - 31)) W := run_sub g off 39 cap 31 35 (by omega) (by omega)
  have HA := Lib.hid hl
  clear hl
  go_enter Tryz.func89, Tryz.ntmps89
  go_wp2_with fail
  have A1 : Hid (At (w.alloc (.cells #[.int .i64 0, .int .u32 0, .int .u64 0, .int .u64 0, .int .u64 0, .string ByteArray.empty] 40)) g off l) := HA.out.alloc _
  have v1 := val_lt 1 (sub l 2 3) (sub_length l 2 3 (by omega)) (sub_byte hb 2 3)
  have v2 := val_lt 4 (sub l 3 7) (sub_length l 3 7 (by omega)) (sub_byte hb 3 7)
  have v6 := val_lt 4 (sub l 31 35) (sub_length l 31 35 (by omega)) (sub_byte hb 31 35)
  rw [show (256 : Nat) ^ 1 = 256 from rfl] at v1
  rw [show (256 : Nat) ^ 4 = 4294967296 by decide] at v2 v6
  have e1 : IntKind.i64.wrap ((val (sub l 2 3) : Nat) : Int) = ((val (sub l 2 3) : Nat) : Int) := by rw [IntKind.wrap_i64]; omega
  have e2 : IntKind.u32.wrap ((val (sub l 3 7) : Nat) : Int) = ((val (sub l 3 7) : Nat) : Int) := by rw [IntKind.wrap_u32]; omega
  have e6 : IntKind.i64.wrap ((val (sub l 31 35) : Nat) : Int) = ((val (sub l 31 35) : Nat) : Int) := by rw [IntKind.wrap_i64]; omega
  clear v1 v2 v6
  have A2 : Hid (At (w.alloc (.cells #[.int .i64 0, .int .u32 0, .int .u64 0, .int .u64 0, .int .u64 0, .string ByteArray.empty] 40)).drew g off l) := A1
  go_region_held3 (fun W => Hid (At W g off l)) ((first | assumption | exact At.alloc (Hid.out (by assumption)) _))
    (first
      | (go_at_call 87; (with_reducible refine (get_at _ 1 _ (sub_length l 2 3 (by omega)) _ _ (At.sub (Hid.out (by assumption)) 2 3 (by omega) (by omega)) (sub_byte hb 2 3) (by omega) (by omega)).mono ?_); rintro e w' ⟨rfl, rfl⟩)
      | (go_at_call 87; (with_reducible refine (get_at _ 4 _ (sub_length l 3 7 (by omega)) _ _ (At.sub (Hid.out (by assumption)) 3 7 (by omega) (by omega)) (sub_byte hb 3 7) (by omega) (by omega)).mono ?_); rintro e w' ⟨rfl, rfl⟩)
      | (go_at_call 87; (with_reducible refine (get_at _ 8 _ (sub_length l 7 15 (by omega)) _ _ (At.sub (Hid.out (by assumption)) 7 15 (by omega) (by omega)) (sub_byte hb 7 15) (by omega) (by omega)).mono ?_); rintro e w' ⟨rfl, rfl⟩)
      | (go_at_call 87; (with_reducible refine (get_at _ 8 _ (sub_length l 15 23 (by omega)) _ _ (At.sub (Hid.out (by assumption)) 15 23 (by omega) (by omega)) (sub_byte hb 15 23) (by omega) (by omega)).mono ?_); rintro e w' ⟨rfl, rfl⟩)
      | (go_at_call 87; (with_reducible refine (get_at _ 8 _ (sub_length l 23 31 (by omega)) _ _ (At.sub (Hid.out (by assumption)) 23 31 (by omega) (by omega)) (sub_byte hb 23 31) (by omega) (by omega)).mono ?_); rintro e w' ⟨rfl, rfl⟩))
  all_goals
    have A3 : At (((w.alloc (.cells #[.int .i64 0, .int .u32 0, .int .u64 0, .int .u64 0, .int .u64 0, .string ⟨#[]⟩] 40)).alloc (.cells #[.int .i64 (val (sub l 2 3) : Nat), .int .u32 (val (sub l 3 7) : Nat), .int .u64 (val (sub l 7 15) : Nat), .int .u64 (val (sub l 15 23) : Nat), .int .u64 (val (sub l 23 31) : Nat), .string ⟨#[]⟩] 40)).drew) g off l := (A1.out.alloc _).later (below_draws (Below.refl _ _) 1)
    have B3 : Below w.heap.size w (((w.alloc (.cells #[.int .i64 0, .int .u32 0, .int .u64 0, .int .u64 0, .int .u64 0, .string ⟨#[]⟩] 40)).alloc (.cells #[.int .i64 (val (sub l 2 3) : Nat), .int .u32 (val (sub l 3 7) : Nat), .int .u64 (val (sub l 7 15) : Nat), .int .u64 (val (sub l 15 23) : Nat), .int .u64 (val (sub l 23 31) : Nat), .string ⟨#[]⟩] 40)).drew) := below_draws (((Below.refl _ _).alloc (Nat.le_refl _) _).alloc (by simp) _) 1
    have W3 : Whole (((w.alloc (.cells #[.int .i64 0, .int .u32 0, .int .u64 0, .int .u64 0, .int .u64 0, .string ⟨#[]⟩] 40)).alloc (.cells #[.int .i64 (val (sub l 2 3) : Nat), .int .u32 (val (sub l 3 7) : Nat), .int .u64 (val (sub l 7 15) : Nat), .int .u64 (val (sub l 15 23) : Nat), .int .u64 (val (sub l 23 31) : Nat), .string ⟨#[]⟩] 40)).drew) w.heap.size 40 [.int .i64 0, .int .u32 0, .int .u64 0, .int .u64 0, .int .u64 0, .string ⟨#[]⟩] := ((Whole.new_ rfl rfl).more _).draws 1
    have W4 : Whole (((w.alloc (.cells #[.int .i64 0, .int .u32 0, .int .u64 0, .int .u64 0, .int .u64 0, .string ⟨#[]⟩] 40)).alloc (.cells #[.int .i64 (val (sub l 2 3) : Nat), .int .u32 (val (sub l 3 7) : Nat), .int .u64 (val (sub l 7 15) : Nat), .int .u64 (val (sub l 15 23) : Nat), .int .u64 (val (sub l 23 31) : Nat), .string ⟨#[]⟩] 40)).drew) (w.heap.size + 1) 40 [.int .i64 (val (sub l 2 3) : Nat), .int .u32 (val (sub l 3 7) : Nat), .int .u64 (val (sub l 7 15) : Nat), .int .u64 (val (sub l 15 23) : Nat), .int .u64 (val (sub l 23 31) : Nat), .string ⟨#[]⟩] := (Whole.new_ (by simp) rfl).draws 1
    have A3' := Lib.hid A3
    have B3' := Lib.hid B3
    have W3' := Lib.hid W3
    have W4' := Lib.hid W4
    clear A3 B3 W3 W4
    go_wp2_with fail
    go_region_with (go_at_call 87; refine (get_at _ 4 _ (sub_length l 31 35 (by omega)) _ _ (At.sub (W := _) (by first | exact A3'.out | exact (A3'.out.later (by assumption))) 31 35 (by omega) (by omega)) (sub_byte hb 31 35) (by omega) (by omega)).mono ?_; rintro e w' ⟨rfl, rfl⟩)
    all_goals
      go_wp2_with fail
      refine bodyPost_ret (v := .tuple #[(headOf l).val, .int .i64 (lenOf l : Nat)]) (by simp [results, Tryz.results89, go_sem, Rec.val, headOf, lenOf]; try rfl) rfl ⟨rfl, ?_⟩
      exact below_draws (below_draws (((Below.refl _ _).alloc (Nat.le_refl _) _).alloc (by simp) _) 1) 1
end Go.Proofs.YtdonblfidohncaaGreatDoor.recd
/-
  CONTRACT of record.Decode (P6.1).
-/

namespace Go.Proofs.YtdonblfidohncaaGreatDoor.recd
open Go.RowKit Go.Proofs.YtdonblfidohncaaGreatDoor.num Go.Proofs.YtdonblfidohncaaGreatDoor.disk
set_option linter.unusedVariables false

/-- What Decode answers with, as values. -/
def decV (x : Rec × Nat × Int) : Value := .tuple #[x.1.val, .int .i64 (x.2.1 : Nat), .int .i64 x.2.2]
def DecOut (w : World) (x : Rec × Nat × Int) (e : Ending) (w' : World) : Prop := e = .returned (decV x) ∧ Below w.heap.size w w'

theorem recInfo : (Tryz.prog.info? 40).map (·.size) = some 6 := by kernel_rfl
theorem run_load_rec {w : World} {bz : Nat} {cs : List Value} (hw : Whole w bz 40 cs) (hl : cs.length = 6) : (loadVar 40 ⟨bz, 0, none⟩).run Tryz.prog w = .ok (.agg cs.toArray) w := by
  have h := hw.range 0 6
  rw [List.drop_zero, ← hl, List.take_length] at h
  exact run_loadVar_mid w bz 0 40 cs _ h Tryz.underlying40 rfl (by rw [hl]; exact recInfo)
theorem dec_ret {a : Act} {w9 : World} {bz : Nat} {cs : List Value} {n e : Value} {R : Ending → World → Prop} (h2 : a.tmps.getD 2 undef = .pointer (some ⟨bz, 0, none⟩)) (h3 : a.tmps.getD 3 undef = n) (h4 : a.tmps.getD 4 undef = e) (hd : a.defers = [])
    (hw : Whole w9 bz 40 cs) (hl : cs.length = 6) (hR : R (.returned (.tuple #[.agg cs.toArray, n, e])) w9) : bodyPost Tryz.prog Tryz.f57 R .ret a w9 := by
  have hld := run_load_rec hw hl
  have k2 : a.tmps[2]?.getD undef = .pointer (some ⟨bz, 0, none⟩) := by simpa using h2
  have k3 : a.tmps[3]?.getD undef = n := by simpa using h3
  have k4 : a.tmps[4]?.getD undef = e := by simpa using h4
  exact bodyPost_ret (v := .tuple #[.agg cs.toArray, n, e]) (by simp [results, Tryz.results57, k2, k3, k4, asAddr, hld]) hd hR

set_option maxRecDepth 100000 in
set_option maxHeartbeats 2000000 in
theorem dec_beg (a : Option Addr) (n cap : Nat) (l : List Int) (w : World) (hT : crc.Tab w) (hl : Leads w a l) (hb : Byte l) (hn : l.length = n) (hc : n ≤ cap) (hm : n ≤ 1000000000) (h1 : begB l = false) :
    Calls Tryz.prog 57 #[.slice a n cap] w (DecOut w (dec l)) := by
  have hd : dec l = (zeroRec, 0, 4) := by unfold dec; rw [if_pos h1]
  rw [hd]
  clear hd
  have c := begins_any a n cap l (w.alloc (.cells #[.int .i64 0, .int .u32 0, .int .u64 0, .int .u64 0, .int .u64 0, .string ⟨#[]⟩] 40)) (hl.later ((Below.refl _ _).alloc (Nat.le_refl _) _)) hb hn hc
  rw [h1] at c
  have C := Lib.hid c
  have HH1 := Lib.hid h1
  have HB := Lib.hid hb
  have HN := Lib.hid hn
  have HL := Lib.hid hl
  have HT := Lib.hid hT
  clear c h1 hb hn hl hT
  go_enter Tryz.func57, Tryz.ntmps57
  go_wp2_with fail
  refine C.out.mono ?_
  rintro e w' ⟨rfl, q, hq⟩
  have b1 : Below w.heap.size w w' := by rw [hq]; exact below_draws ((Below.refl _ _).alloc (Nat.le_refl _) _) q
  have w1 : Whole w' w.heap.size 40 [.int .i64 0, .int .u32 0, .int .u64 0, .int .u64 0, .int .u64 0, .string ⟨#[]⟩] := by rw [hq]; exact (Whole.new_ rfl rfl).draws q
  have B1 := Lib.hid b1
  have W1 := Lib.hid w1
  clear hq b1 w1 C
  obtain ⟨bz, hbz⟩ : ∃ bz, w.heap.size = bz := ⟨_, rfl⟩
  rw [hbz] at W1 ⊢
  have HBZ := Lib.hid hbz
  clear hbz
  go_wp2_with ((with_reducible show wpList _ _ _ (⟨none, _, _, _, _, _⟩ :: _) _ _); refine wpList_store_as rfl 40 (.tmp 2) (.tmp 12) rfl bz 0 #[.int .i64 0, .int .u32 0, .int .u64 0, .int .u64 0, .int .u64 0, .string ⟨#[]⟩] rfl rfl (Whole.there W1.out 0 6 (Nat.le_refl 6)) recInfo (by simp [Value.oneCell']) ?_; intro w7 hw7; have HW7 := Lib.hid hw7; clear hw7)
  have wf7 : Whole w7 bz 40 [.int .i64 0, .int .u32 0, .int .u64 0, .int .u64 0, .int .u64 0, .string ⟨#[]⟩] := by
    rw [← HW7.out]
    exact Whole.lay [.int .i64 0, .int .u32 0, .int .u64 0, .int .u64 0, .int .u64 0, .string ⟨#[]⟩] 0 W1.out (by decide)
  have b7 : Below w.heap.size w w7 := by
    rw [← HW7.out]
    exact below_lay _ _ _ B1.out (by rw [HBZ.out]; exact Nat.le_refl _)
  exact dec_ret rfl rfl rfl rfl wf7 rfl ⟨rfl, b7⟩
set_option maxRecDepth 100000 in
set_option maxHeartbeats 2000000 in
theorem dec_short (a : Option Addr) (n cap : Nat) (l : List Int) (w : World) (hT : crc.Tab w) (hl : Leads w a l) (hb : Byte l) (hn : l.length = n) (hc : n ≤ cap) (hm : n ≤ 1000000000) (h1 : begB l = true) (h2 : n < 39) :
    Calls Tryz.prog 57 #[.slice a n cap] w (DecOut w (dec l)) := by
  have hd : dec l = (zeroRec, 0, 11) := by unfold dec; rw [if_neg (by rw [h1]; simp), if_pos (by omega)]
  rw [hd]
  clear hd
  have c := begins_any a n cap l (w.alloc (.cells #[.int .i64 0, .int .u32 0, .int .u64 0, .int .u64 0, .int .u64 0, .string ⟨#[]⟩] 40)) (hl.later ((Below.refl _ _).alloc (Nat.le_refl _) _)) hb hn hc
  rw [h1] at c
  have C := Lib.hid c
  have HH1 := Lib.hid h1
  have HB := Lib.hid hb
  have HN := Lib.hid hn
  have HL := Lib.hid hl
  have HT := Lib.hid hT
  clear c h1 hb hn hl hT
  have h2I : (n : Int) < 39 := by omega
  go_enter Tryz.func57, Tryz.ntmps57
  go_wp2_with fail
  refine C.out.mono ?_
  rintro e w' ⟨rfl, q, hq⟩
  have b1 : Below w.heap.size w w' := by rw [hq]; exact below_draws ((Below.refl _ _).alloc (Nat.le_refl _) _) q
  have w1 : Whole w' w.heap.size 40 [.int .i64 0, .int .u32 0, .int .u64 0, .int .u64 0, .int .u64 0, .string ⟨#[]⟩] := by rw [hq]; exact (Whole.new_ rfl rfl).draws q
  have B1 := Lib.hid b1
  have W1 := Lib.hid w1
  clear hq b1 w1 C
  obtain ⟨bz, hbz⟩ : ∃ bz, w.heap.size = bz := ⟨_, rfl⟩
  rw [hbz] at W1 ⊢
  have HBZ := Lib.hid hbz
  clear hbz
  go_wp2_with ((with_reducible show wpList _ _ _ (⟨none, _, _, _, _, _⟩ :: _) _ _); refine wpList_store_as rfl 40 (.tmp 2) (.tmp 16) rfl bz 0 #[.int .i64 0, .int .u32 0, .int .u64 0, .int .u64 0, .int .u64 0, .string ⟨#[]⟩] rfl rfl (Whole.there W1.out 0 6 (Nat.le_refl 6)) recInfo (by simp [Value.oneCell']) ?_; intro w7 hw7; have HW7 := Lib.hid hw7; clear hw7)
  have wf7 : Whole w7 bz 40 [.int .i64 0, .int .u32 0, .int .u64 0, .int .u64 0, .int .u64 0, .string ⟨#[]⟩] := by
    rw [← HW7.out]
    exact Whole.lay [.int .i64 0, .int .u32 0, .int .u64 0, .int .u64 0, .int .u64 0, .string ⟨#[]⟩] 0 W1.out (by decide)
  have b7 : Below w.heap.size w w7 := by
    rw [← HW7.out]
    exact below_lay _ _ _ B1.out (by rw [HBZ.out]; exact Nat.le_refl _)
  exact dec_ret rfl rfl rfl rfl wf7 rfl ⟨rfl, b7⟩
theorem run_front (g off n cap q : Nat) (hq : q ≤ cap) (W : World) : (Instr.slice 57 (.slice (some ⟨g, off, none⟩) n cap) none (some (.int .i64 (q : Int))) none).run Tryz.prog W = .ok (.slice (some ⟨g, off, none⟩) q cap) W := by
  rw [run_slice_h W 57 _ n cap (by rw [byte_elem]; exact Tryz.underlying57) .i64 (q : Int) (by omega) (by omega), byte_elem, byte_sizeOf]
  simp [Result.andThen, sliced, Addr.add_mid]
theorem At.take {W : World} {g off : Nat} {l : List Int} (h : At W g off l) (n : Nat) : At W g off (l.take n) := fun i hi => by
  rw [List.length_take] at hi
  rw [h i (by omega), List.getD_eq_getElem?_getD, List.getD_eq_getElem?_getD, List.getElem?_take_of_lt (by omega)]
theorem At.leads {W : World} {g off : Nat} {l : List Int} (h : At W g off l) : Leads W (some ⟨g, off, none⟩) l := .inr ⟨g, off, rfl, h⟩
theorem sub_take (l : List Int) (n p q : Nat) (h : q ≤ n) : sub (l.take n) p q = sub l p q := by
  unfold sub
  rw [List.drop_take, List.take_take, show min (q - p) (n - p) = q - p by omega]
theorem headOf_take (l : List Int) : headOf (l.take 39) = headOf l := by
  unfold headOf
  rw [sub_take l 39 2 3 (by omega), sub_take l 39 3 7 (by omega), sub_take l 39 7 15 (by omega), sub_take l 39 15 23 (by omega), sub_take l 39 23 31 (by omega)]
theorem lenOf_take (l : List Int) : lenOf (l.take 39) = lenOf l := by
  unfold lenOf
  rw [sub_take l 39 31 35 (by omega)]
theorem sumOf_lt (l : List Int) : sumOf l < 4294967296 := (crc.sum l).isLt
theorem lenOf_lt {l : List Int} (hb : Byte l) (h : 39 ≤ l.length) : lenOf l < 4294967296 := by
  have := val_lt 4 (sub l 31 35) (sub_length l 31 35 (by omega)) (sub_byte hb 31 35)
  rwa [show (256 : Nat) ^ 4 = 4294967296 by decide] at this

set_option maxRecDepth 100000 in
set_option maxHeartbeats 2000000 in
theorem dec_num (a : Option Addr) (n cap : Nat) (l : List Int) (w : World) (hT : crc.Tab w) (hl : Leads w a l) (hb : Byte l) (hn : l.length = n) (hc : n ≤ cap) (hm : n ≤ 1000000000) (h1 : begB l = true) (h2 : 39 ≤ n) (h3 : numB (headOf l) = false) :
    Calls Tryz.prog 57 #[.slice a n cap] w (DecOut w (dec l)) := by
  have hd : dec l = (zeroRec, 0, 4) := by unfold dec; rw [if_neg (by rw [h1]; simp), if_neg (by omega), if_pos (.inl h3)]
  rw [hd]
  clear hd
  have c := begins_any a n cap l (w.alloc (.cells #[.int .i64 0, .int .u32 0, .int .u64 0, .int .u64 0, .int .u64 0, .string ⟨#[]⟩] 40)) (hl.later ((Below.refl _ _).alloc (Nat.le_refl _) _)) hb hn hc
  rw [h1] at c
  have C := Lib.hid c
  have HH1 := Lib.hid h1
  have HB := Lib.hid hb
  have HN := Lib.hid hn
  have HL := Lib.hid hl
  have HT := Lib.hid hT
  clear c h1 hb hn hl hT
  obtain ⟨g, off, rfl, hA⟩ := HL.out.at_ (by rw [HN.out]; omega)
  have hat : At w g off l := hA
  have HAT := Lib.hid hat
  have h2I : ¬ (n : Int) < 39 := by omega
  have hs1 : ∀ W, (Instr.slice 57 (.slice (some ⟨g, off, none⟩) n cap) none (some (.int .i64 39)) none).run Tryz.prog W = .ok (.slice (some ⟨g, off, none⟩) 39 cap) W := fun W => run_front g off n cap 39 (by omega) W
  have cN := fun W => mayNumbers_any (headOf l) W
  obtain ⟨k, hk⟩ : ∃ k, (headOf l).kind = k := ⟨_, rfl⟩
  obtain ⟨t, ht⟩ : ∃ t, (headOf l).tenant = t := ⟨_, rfl⟩
  obtain ⟨e, he⟩ : ∃ e, (headOf l).epoch = e := ⟨_, rfl⟩
  obtain ⟨o, ho⟩ : ∃ o, (headOf l).object = o := ⟨_, rfl⟩
  obtain ⟨s, hs⟩ : ∃ s, (headOf l).seq = s := ⟨_, rfl⟩
  have hv : (headOf l).val = .agg #[.int .i64 k, .int .u32 (t : Int), .int .u64 (e : Int), .int .u64 (o : Int), .int .u64 (s : Int), .string ⟨#[]⟩] := by
    rw [← hk, ← ht, ← he, ← ho, ← hs]; rfl
  rw [hv] at cN
  have HV := Lib.hid hv
  have HFLD := Lib.hid (And.intro hk (And.intro ht (And.intro he (And.intro ho hs))))
  have hll := lenOf_lt HB.out (by rw [HN.out]; omega)
  obtain ⟨m, hml⟩ : ∃ m, lenOf l = m := ⟨_, rfl⟩
  rw [hml] at hll
  have HML := Lib.hid hml
  have hnb : numB (headOf l) = false := h3
  have HNB := Lib.hid hnb
  clear hnb h3
  have CN := Lib.hid cN
  have hcap : 39 ≤ cap := by omega
  have HNM := Lib.hid hm
  have HN2 := Lib.hid h2
  clear hA hat hk ht he ho hs hv hml cN hll hm h2
  go_enter Tryz.func57, Tryz.ntmps57
  go_wp2_with fail
  refine C.out.mono ?_
  rintro e w' ⟨rfl, q, hq⟩
  have b1 : Below w.heap.size w w' := by rw [hq]; exact below_draws ((Below.refl _ _).alloc (Nat.le_refl _) _) q
  have w1 : Whole w' w.heap.size 40 [.int .i64 0, .int .u32 0, .int .u64 0, .int .u64 0, .int .u64 0, .string ⟨#[]⟩] := by rw [hq]; exact (Whole.new_ rfl rfl).draws q
  have B1 := Lib.hid b1
  have W1 := Lib.hid w1
  clear hq b1 w1 C
  obtain ⟨bz, hbz⟩ : ∃ bz, w.heap.size = bz := ⟨_, rfl⟩
  rw [hbz] at W1 ⊢
  have HBZ := Lib.hid hbz
  clear hbz
  go_wp2_with fail
  refine (head_any g off cap (l.take 39) w' ((HAT.out.later B1.out).take 39) (HB.out.take 39) (by rw [List.length_take, HN.out]; omega) hcap).mono ?_
  rintro en w2 ⟨rfl, b2⟩
  rw [headOf_take, lenOf_take, HV.out, HML.out]
  have W2 := Lib.hid (W1.out.kept b2)
  have B2 := Lib.hid (B1.out.trans (b2.mono B1.out.size))
  clear b2 hs1 W1 B1
  go_wp2_with fail
  obtain ⟨p, hp⟩ : ∃ p, w2.heap.size = p := ⟨_, rfl⟩
  have W3 : Whole (w2.alloc (.cells #[.int .i64 k, .int .u32 (t : Int), .int .u64 (e : Int), .int .u64 (o : Int), .int .u64 (s : Int), .string ⟨#[]⟩] 40)) p 40 [.int .i64 k, .int .u32 (t : Int), .int .u64 (e : Int), .int .u64 (o : Int), .int .u64 (s : Int), .string ⟨#[]⟩] := Whole.new_ hp.symm rfl
  have b3 : Below w2.heap.size w2 (w2.alloc (.cells #[.int .i64 k, .int .u32 (t : Int), .int .u64 (e : Int), .int .u64 (o : Int), .int .u64 (s : Int), .string ⟨#[]⟩] 40)) := (Below.refl _ _).alloc (Nat.le_refl _) _
  refine (CN.out _).mono ?_
  rintro en w4 ⟨rfl, b4⟩
  rw [HNB.out]
  have W4 := Lib.hid (W3.kept b4)
  have Z4 := Lib.hid ((W2.out.kept b3).kept b4)
  have B4 := Lib.hid ((B2.out.trans (b3.mono B2.out.size)).trans (b4.mono (B2.out.trans (b3.mono B2.out.size)).size))
  have hbp : bz < p := by rw [← hp]; exact W2.out.lt
  rw [hp]
  have HP := Lib.hid hp
  clear b3 b4 W3 W2 B2 CN hp
  go_wp2_with ((with_reducible show wpList _ _ _ (⟨none, _, _, _, _, _⟩ :: _) _ _); refine wpList_store_as rfl 40 (.tmp 2) (.tmp 30) rfl bz 0 #[.int .i64 0, .int .u32 0, .int .u64 0, .int .u64 0, .int .u64 0, .string ⟨#[]⟩] rfl rfl (Whole.there Z4.out 0 6 (Nat.le_refl 6)) recInfo (by simp [Value.oneCell']) ?_; intro w7 hw7; have HW7 := Lib.hid hw7; clear hw7)
  have wf7 : Whole w7 bz 40 [.int .i64 0, .int .u32 0, .int .u64 0, .int .u64 0, .int .u64 0, .string ⟨#[]⟩] := by
    rw [← HW7.out]
    exact Whole.lay [.int .i64 0, .int .u32 0, .int .u64 0, .int .u64 0, .int .u64 0, .string ⟨#[]⟩] 0 Z4.out (by decide)
  have b7 : Below w.heap.size w w7 := by
    rw [← HW7.out]
    exact below_lay _ _ _ B4.out (by rw [HBZ.out]; exact Nat.le_refl _)
  exact dec_ret rfl rfl rfl rfl wf7 rfl ⟨rfl, b7⟩
set_option maxRecDepth 100000 in
set_option maxHeartbeats 2000000 in
theorem dec_len (a : Option Addr) (n cap : Nat) (l : List Int) (w : World) (hT : crc.Tab w) (hl : Leads w a l) (hb : Byte l) (hn : l.length = n) (hc : n ≤ cap) (hm : n ≤ 1000000000) (h1 : begB l = true) (h2 : 39 ≤ n) (h3 : numB (headOf l) = true) (h4 : 1000 < lenOf l) :
    Calls Tryz.prog 57 #[.slice a n cap] w (DecOut w (dec l)) := by
  have hd : dec l = (zeroRec, 0, 4) := by unfold dec; rw [if_neg (by rw [h1]; simp), if_neg (by omega), if_pos (.inr h4)]
  rw [hd]
  clear hd
  have c := begins_any a n cap l (w.alloc (.cells #[.int .i64 0, .int .u32 0, .int .u64 0, .int .u64 0, .int .u64 0, .string ⟨#[]⟩] 40)) (hl.later ((Below.refl _ _).alloc (Nat.le_refl _) _)) hb hn hc
  rw [h1] at c
  have C := Lib.hid c
  have HH1 := Lib.hid h1
  have HB := Lib.hid hb
  have HN := Lib.hid hn
  have HL := Lib.hid hl
  have HT := Lib.hid hT
  clear c h1 hb hn hl hT
  obtain ⟨g, off, rfl, hA⟩ := HL.out.at_ (by rw [HN.out]; omega)
  have hat : At w g off l := hA
  have HAT := Lib.hid hat
  have h2I : ¬ (n : Int) < 39 := by omega
  have hs1 : ∀ W, (Instr.slice 57 (.slice (some ⟨g, off, none⟩) n cap) none (some (.int .i64 39)) none).run Tryz.prog W = .ok (.slice (some ⟨g, off, none⟩) 39 cap) W := fun W => run_front g off n cap 39 (by omega) W
  have cN := fun W => mayNumbers_any (headOf l) W
  obtain ⟨k, hk⟩ : ∃ k, (headOf l).kind = k := ⟨_, rfl⟩
  obtain ⟨t, ht⟩ : ∃ t, (headOf l).tenant = t := ⟨_, rfl⟩
  obtain ⟨e, he⟩ : ∃ e, (headOf l).epoch = e := ⟨_, rfl⟩
  obtain ⟨o, ho⟩ : ∃ o, (headOf l).object = o := ⟨_, rfl⟩
  obtain ⟨s, hs⟩ : ∃ s, (headOf l).seq = s := ⟨_, rfl⟩
  have hv : (headOf l).val = .agg #[.int .i64 k, .int .u32 (t : Int), .int .u64 (e : Int), .int .u64 (o : Int), .int .u64 (s : Int), .string ⟨#[]⟩] := by
    rw [← hk, ← ht, ← he, ← ho, ← hs]; rfl
  rw [hv] at cN
  have HV := Lib.hid hv
  have HFLD := Lib.hid (And.intro hk (And.intro ht (And.intro he (And.intro ho hs))))
  have hll := lenOf_lt HB.out (by rw [HN.out]; omega)
  obtain ⟨m, hml⟩ : ∃ m, lenOf l = m := ⟨_, rfl⟩
  rw [hml] at hll
  have HML := Lib.hid hml
  have hnb : numB (headOf l) = true := h3
  have HNB := Lib.hid hnb
  clear hnb h3
  rw [hml] at h4
  have h4I : (1000 : Int) < (m : Int) := by omega
  clear h4
  have CN := Lib.hid cN
  have hcap : 39 ≤ cap := by omega
  have HNM := Lib.hid hm
  have HN2 := Lib.hid h2
  clear hA hat hk ht he ho hs hv hml cN hll hm h2
  go_enter Tryz.func57, Tryz.ntmps57
  go_wp2_with fail
  refine C.out.mono ?_
  rintro e w' ⟨rfl, q, hq⟩
  have b1 : Below w.heap.size w w' := by rw [hq]; exact below_draws ((Below.refl _ _).alloc (Nat.le_refl _) _) q
  have w1 : Whole w' w.heap.size 40 [.int .i64 0, .int .u32 0, .int .u64 0, .int .u64 0, .int .u64 0, .string ⟨#[]⟩] := by rw [hq]; exact (Whole.new_ rfl rfl).draws q
  have B1 := Lib.hid b1
  have W1 := Lib.hid w1
  clear hq b1 w1 C
  obtain ⟨bz, hbz⟩ : ∃ bz, w.heap.size = bz := ⟨_, rfl⟩
  rw [hbz] at W1 ⊢
  have HBZ := Lib.hid hbz
  clear hbz
  go_wp2_with fail
  refine (head_any g off cap (l.take 39) w' ((HAT.out.later B1.out).take 39) (HB.out.take 39) (by rw [List.length_take, HN.out]; omega) hcap).mono ?_
  rintro en w2 ⟨rfl, b2⟩
  rw [headOf_take, lenOf_take, HV.out, HML.out]
  have W2 := Lib.hid (W1.out.kept b2)
  have B2 := Lib.hid (B1.out.trans (b2.mono B1.out.size))
  clear b2 hs1 W1 B1
  go_wp2_with fail
  obtain ⟨p, hp⟩ : ∃ p, w2.heap.size = p := ⟨_, rfl⟩
  have W3 : Whole (w2.alloc (.cells #[.int .i64 k, .int .u32 (t : Int), .int .u64 (e : Int), .int .u64 (o : Int), .int .u64 (s : Int), .string ⟨#[]⟩] 40)) p 40 [.int .i64 k, .int .u32 (t : Int), .int .u64 (e : Int), .int .u64 (o : Int), .int .u64 (s : Int), .string ⟨#[]⟩] := Whole.new_ hp.symm rfl
  have b3 : Below w2.heap.size w2 (w2.alloc (.cells #[.int .i64 k, .int .u32 (t : Int), .int .u64 (e : Int), .int .u64 (o : Int), .int .u64 (s : Int), .string ⟨#[]⟩] 40)) := (Below.refl _ _).alloc (Nat.le_refl _) _
  refine (CN.out _).mono ?_
  rintro en w4 ⟨rfl, b4⟩
  rw [HNB.out]
  have W4 := Lib.hid (W3.kept b4)
  have Z4 := Lib.hid ((W2.out.kept b3).kept b4)
  have B4 := Lib.hid ((B2.out.trans (b3.mono B2.out.size)).trans (b4.mono (B2.out.trans (b3.mono B2.out.size)).size))
  have hbp : bz < p := by rw [← hp]; exact W2.out.lt
  rw [hp]
  have HP := Lib.hid hp
  clear b3 b4 W3 W2 B2 CN hp
  go_wp2_with ((with_reducible show wpList _ _ _ (⟨none, _, _, _, _, _⟩ :: _) _ _); refine wpList_store_as rfl 40 (.tmp 2) (.tmp 30) rfl bz 0 #[.int .i64 0, .int .u32 0, .int .u64 0, .int .u64 0, .int .u64 0, .string ⟨#[]⟩] rfl rfl (Whole.there Z4.out 0 6 (Nat.le_refl 6)) recInfo (by simp [Value.oneCell']) ?_; intro w7 hw7; have HW7 := Lib.hid hw7; clear hw7)
  have wf7 : Whole w7 bz 40 [.int .i64 0, .int .u32 0, .int .u64 0, .int .u64 0, .int .u64 0, .string ⟨#[]⟩] := by
    rw [← HW7.out]
    exact Whole.lay [.int .i64 0, .int .u32 0, .int .u64 0, .int .u64 0, .int .u64 0, .string ⟨#[]⟩] 0 Z4.out (by decide)
  have b7 : Below w.heap.size w w7 := by
    rw [← HW7.out]
    exact below_lay _ _ _ B4.out (by rw [HBZ.out]; exact Nat.le_refl _)
  exact dec_ret rfl rfl rfl rfl wf7 rfl ⟨rfl, b7⟩
set_option maxRecDepth 100000 in
set_option maxHeartbeats 2000000 in
theorem dec_more (a : Option Addr) (n cap : Nat) (l : List Int) (w : World) (hT : crc.Tab w) (hl : Leads w a l) (hb : Byte l) (hn : l.length = n) (hc : n ≤ cap) (hm : n ≤ 1000000000) (h1 : begB l = true) (h2 : 39 ≤ n) (h3 : numB (headOf l) = true) (h4 : lenOf l ≤ 1000) (h5 : n < 39 + lenOf l) :
    Calls Tryz.prog 57 #[.slice a n cap] w (DecOut w (dec l)) := by
  have hd : dec l = (zeroRec, 0, 11) := by unfold dec; rw [if_neg (by rw [h1]; simp), if_neg (by omega), if_neg (by rw [h3]; simp; omega), if_pos (by omega)]
  rw [hd]
  clear hd
  have c := begins_any a n cap l (w.alloc (.cells #[.int .i64 0, .int .u32 0, .int .u64 0, .int .u64 0, .int .u64 0, .string ⟨#[]⟩] 40)) (hl.later ((Below.refl _ _).alloc (Nat.le_refl _) _)) hb hn hc
  rw [h1] at c
  have C := Lib.hid c
  have HH1 := Lib.hid h1
  have HB := Lib.hid hb
  have HN := Lib.hid hn
  have HL := Lib.hid hl
  have HT := Lib.hid hT
  clear c h1 hb hn hl hT
  obtain ⟨g, off, rfl, hA⟩ := HL.out.at_ (by rw [HN.out]; omega)
  have hat : At w g off l := hA
  have HAT := Lib.hid hat
  have h2I : ¬ (n : Int) < 39 := by omega
  have hs1 : ∀ W, (Instr.slice 57 (.slice (some ⟨g, off, none⟩) n cap) none (some (.int .i64 39)) none).run Tryz.prog W = .ok (.slice (some ⟨g, off, none⟩) 39 cap) W := fun W => run_front g off n cap 39 (by omega) W
  have cN := fun W => mayNumbers_any (headOf l) W
  obtain ⟨k, hk⟩ : ∃ k, (headOf l).kind = k := ⟨_, rfl⟩
  obtain ⟨t, ht⟩ : ∃ t, (headOf l).tenant = t := ⟨_, rfl⟩
  obtain ⟨e, he⟩ : ∃ e, (headOf l).epoch = e := ⟨_, rfl⟩
  obtain ⟨o, ho⟩ : ∃ o, (headOf l).object = o := ⟨_, rfl⟩
  obtain ⟨s, hs⟩ : ∃ s, (headOf l).seq = s := ⟨_, rfl⟩
  have hv : (headOf l).val = .agg #[.int .i64 k, .int .u32 (t : Int), .int .u64 (e : Int), .int .u64 (o : Int), .int .u64 (s : Int), .string ⟨#[]⟩] := by
    rw [← hk, ← ht, ← he, ← ho, ← hs]; rfl
  rw [hv] at cN
  have HV := Lib.hid hv
  have HFLD := Lib.hid (And.intro hk (And.intro ht (And.intro he (And.intro ho hs))))
  have hll := lenOf_lt HB.out (by rw [HN.out]; omega)
  obtain ⟨m, hml⟩ : ∃ m, lenOf l = m := ⟨_, rfl⟩
  rw [hml] at hll
  have HML := Lib.hid hml
  have hnb : numB (headOf l) = true := h3
  have HNB := Lib.hid hnb
  clear hnb h3
  rw [hml] at h4 h5
  have h4I : (m : Int) ≤ 1000 := by omega
  have h5I : (n : Int) < 39 + (m : Int) := by omega
  clear h4 h5
  have CN := Lib.hid cN
  have hcap : 39 ≤ cap := by omega
  have HNM := Lib.hid hm
  have HN2 := Lib.hid h2
  clear hA hat hk ht he ho hs hv hml cN hll hm h2
  go_enter Tryz.func57, Tryz.ntmps57
  go_wp2_with fail
  refine C.out.mono ?_
  rintro e w' ⟨rfl, q, hq⟩
  have b1 : Below w.heap.size w w' := by rw [hq]; exact below_draws ((Below.refl _ _).alloc (Nat.le_refl _) _) q
  have w1 : Whole w' w.heap.size 40 [.int .i64 0, .int .u32 0, .int .u64 0, .int .u64 0, .int .u64 0, .string ⟨#[]⟩] := by rw [hq]; exact (Whole.new_ rfl rfl).draws q
  have B1 := Lib.hid b1
  have W1 := Lib.hid w1
  clear hq b1 w1 C
  obtain ⟨bz, hbz⟩ : ∃ bz, w.heap.size = bz := ⟨_, rfl⟩
  rw [hbz] at W1 ⊢
  have HBZ := Lib.hid hbz
  clear hbz
  go_wp2_with fail
  refine (head_any g off cap (l.take 39) w' ((HAT.out.later B1.out).take 39) (HB.out.take 39) (by rw [List.length_take, HN.out]; omega) hcap).mono ?_
  rintro en w2 ⟨rfl, b2⟩
  rw [headOf_take, lenOf_take, HV.out, HML.out]
  have W2 := Lib.hid (W1.out.kept b2)
  have B2 := Lib.hid (B1.out.trans (b2.mono B1.out.size))
  clear b2 hs1 W1 B1
  go_wp2_with fail
  obtain ⟨p, hp⟩ : ∃ p, w2.heap.size = p := ⟨_, rfl⟩
  have W3 : Whole (w2.alloc (.cells #[.int .i64 k, .int .u32 (t : Int), .int .u64 (e : Int), .int .u64 (o : Int), .int .u64 (s : Int), .string ⟨#[]⟩] 40)) p 40 [.int .i64 k, .int .u32 (t : Int), .int .u64 (e : Int), .int .u64 (o : Int), .int .u64 (s : Int), .string ⟨#[]⟩] := Whole.new_ hp.symm rfl
  have b3 : Below w2.heap.size w2 (w2.alloc (.cells #[.int .i64 k, .int .u32 (t : Int), .int .u64 (e : Int), .int .u64 (o : Int), .int .u64 (s : Int), .string ⟨#[]⟩] 40)) := (Below.refl _ _).alloc (Nat.le_refl _) _
  refine (CN.out _).mono ?_
  rintro en w4 ⟨rfl, b4⟩
  rw [HNB.out]
  have W4 := Lib.hid (W3.kept b4)
  have Z4 := Lib.hid ((W2.out.kept b3).kept b4)
  have B4 := Lib.hid ((B2.out.trans (b3.mono B2.out.size)).trans (b4.mono (B2.out.trans (b3.mono B2.out.size)).size))
  have hbp : bz < p := by rw [← hp]; exact W2.out.lt
  rw [hp]
  have HP := Lib.hid hp
  clear b3 b4 W3 W2 B2 CN hp
  go_wp2_with ((with_reducible show wpList _ _ _ (⟨none, _, _, _, _, _⟩ :: _) _ _); refine wpList_store_as rfl 40 (.tmp 2) (.tmp 37) rfl bz 0 #[.int .i64 0, .int .u32 0, .int .u64 0, .int .u64 0, .int .u64 0, .string ⟨#[]⟩] rfl rfl (Whole.there Z4.out 0 6 (Nat.le_refl 6)) recInfo (by simp [Value.oneCell']) ?_; intro w7 hw7; have HW7 := Lib.hid hw7; clear hw7)
  have wf7 : Whole w7 bz 40 [.int .i64 0, .int .u32 0, .int .u64 0, .int .u64 0, .int .u64 0, .string ⟨#[]⟩] := by
    rw [← HW7.out]
    exact Whole.lay [.int .i64 0, .int .u32 0, .int .u64 0, .int .u64 0, .int .u64 0, .string ⟨#[]⟩] 0 Z4.out (by decide)
  have b7 : Below w.heap.size w w7 := by
    rw [← HW7.out]
    exact below_lay _ _ _ B4.out (by rw [HBZ.out]; exact Nat.le_refl _)
  exact dec_ret rfl rfl rfl rfl wf7 rfl ⟨rfl, b7⟩
set_option maxRecDepth 100000 in
set_option maxHeartbeats 2000000 in
theorem dec_bad (a : Option Addr) (n cap : Nat) (l : List Int) (w : World) (hT : crc.Tab w) (hl : Leads w a l) (hb : Byte l) (hn : l.length = n) (hc : n ≤ cap) (hm : n ≤ 1000000000) (h1 : begB l = true) (h2 : 39 ≤ n) (h3 : numB (headOf l) = true) (h4 : lenOf l ≤ 1000) (h5 : 39 + lenOf l ≤ n) (h6 : sumOf (sub l 0 35 ++ sub l 39 (39 + lenOf l)) ≠ val (sub l 35 39)) :
    Calls Tryz.prog 57 #[.slice a n cap] w (DecOut w (dec l)) := by
  have hd : dec l = (zeroRec, 0, 4) := by unfold dec; rw [if_neg (by rw [h1]; simp), if_neg (by omega), if_neg (by rw [h3]; simp; omega), if_neg (by omega), if_pos h6]
  rw [hd]
  clear hd
  have c := begins_any a n cap l (w.alloc (.cells #[.int .i64 0, .int .u32 0, .int .u64 0, .int .u64 0, .int .u64 0, .string ⟨#[]⟩] 40)) (hl.later ((Below.refl _ _).alloc (Nat.le_refl _) _)) hb hn hc
  rw [h1] at c
  have C := Lib.hid c
  have HH1 := Lib.hid h1
  have HB := Lib.hid hb
  have HN := Lib.hid hn
  have HL := Lib.hid hl
  have HT := Lib.hid hT
  clear c h1 hb hn hl hT
  obtain ⟨g, off, rfl, hA⟩ := HL.out.at_ (by rw [HN.out]; omega)
  have hat : At w g off l := hA
  have HAT := Lib.hid hat
  have h2I : ¬ (n : Int) < 39 := by omega
  have hs1 : ∀ W, (Instr.slice 57 (.slice (some ⟨g, off, none⟩) n cap) none (some (.int .i64 39)) none).run Tryz.prog W = .ok (.slice (some ⟨g, off, none⟩) 39 cap) W := fun W => run_front g off n cap 39 (by omega) W
  have cN := fun W => mayNumbers_any (headOf l) W
  obtain ⟨k, hk⟩ : ∃ k, (headOf l).kind = k := ⟨_, rfl⟩
  obtain ⟨t, ht⟩ : ∃ t, (headOf l).tenant = t := ⟨_, rfl⟩
  obtain ⟨e, he⟩ : ∃ e, (headOf l).epoch = e := ⟨_, rfl⟩
  obtain ⟨o, ho⟩ : ∃ o, (headOf l).object = o := ⟨_, rfl⟩
  obtain ⟨s, hs⟩ : ∃ s, (headOf l).seq = s := ⟨_, rfl⟩
  have hv : (headOf l).val = .agg #[.int .i64 k, .int .u32 (t : Int), .int .u64 (e : Int), .int .u64 (o : Int), .int .u64 (s : Int), .string ⟨#[]⟩] := by
    rw [← hk, ← ht, ← he, ← ho, ← hs]; rfl
  rw [hv] at cN
  have HV := Lib.hid hv
  have HFLD := Lib.hid (And.intro hk (And.intro ht (And.intro he (And.intro ho hs))))
  have hll := lenOf_lt HB.out (by rw [HN.out]; omega)
  obtain ⟨m, hml⟩ : ∃ m, lenOf l = m := ⟨_, rfl⟩
  rw [hml] at hll
  have HML := Lib.hid hml
  have hnb : numB (headOf l) = true := h3
  have HNB := Lib.hid hnb
  clear hnb h3
  rw [hml] at h4 h5 h6
  have h4I : (m : Int) ≤ 1000 := by omega
  have h5I : ¬ (n : Int) < 39 + (m : Int) := by omega
  have HNN := Lib.hid h5
  clear h4 h5
  have CN := Lib.hid cN
  have hcap : 39 ≤ cap := by omega
  have HNM := Lib.hid hm
  have HN2 := Lib.hid h2
  have hbod : (sub l 39 (39 + m)).length = m := by rw [sub_length l 39 (39 + m) (by rw [HN.out]; omega)]; omega
  obtain ⟨sm, hsm⟩ : ∃ sm, sumOf (sub l 0 35 ++ sub l 39 (39 + m)) = sm := ⟨_, rfl⟩
  obtain ⟨gv, hgv⟩ : ∃ gv, val (sub l 35 39) = gv := ⟨_, rfl⟩
  rw [hsm, hgv] at h6
  have h6b : (IntKind.u64.wrap (sm : Int) != (gv : Int)) = true := by
    rw [show IntKind.u64.wrap (sm : Int) = (sm : Int) by rw [IntKind.wrap_u64]; have : sm < 4294967296 := by rw [← hsm]; exact sumOf_lt _
                                                         omega, bne_iff_ne]
    exact fun e => h6 (by omega)
  have H6 := Lib.hid h6
  clear h6
  have HSM := Lib.hid hsm
  have HGV := Lib.hid hgv
  have HBOD := Lib.hid hbod
  clear hsm hgv hbod
  clear hA hat hk ht he ho hs hv hml cN hll hm h2
  go_enter Tryz.func57, Tryz.ntmps57
  go_wp2_with fail
  refine C.out.mono ?_
  rintro e w' ⟨rfl, q, hq⟩
  have b1 : Below w.heap.size w w' := by rw [hq]; exact below_draws ((Below.refl _ _).alloc (Nat.le_refl _) _) q
  have w1 : Whole w' w.heap.size 40 [.int .i64 0, .int .u32 0, .int .u64 0, .int .u64 0, .int .u64 0, .string ⟨#[]⟩] := by rw [hq]; exact (Whole.new_ rfl rfl).draws q
  have B1 := Lib.hid b1
  have W1 := Lib.hid w1
  clear hq b1 w1 C
  obtain ⟨bz, hbz⟩ : ∃ bz, w.heap.size = bz := ⟨_, rfl⟩
  rw [hbz] at W1 ⊢
  have HBZ := Lib.hid hbz
  clear hbz
  go_wp2_with fail
  refine (head_any g off cap (l.take 39) w' ((HAT.out.later B1.out).take 39) (HB.out.take 39) (by rw [List.length_take, HN.out]; omega) hcap).mono ?_
  rintro en w2 ⟨rfl, b2⟩
  rw [headOf_take, lenOf_take, HV.out, HML.out]
  have W2 := Lib.hid (W1.out.kept b2)
  have B2 := Lib.hid (B1.out.trans (b2.mono B1.out.size))
  clear b2 hs1 W1 B1
  go_wp2_with fail
  obtain ⟨p, hp⟩ : ∃ p, w2.heap.size = p := ⟨_, rfl⟩
  have W3 : Whole (w2.alloc (.cells #[.int .i64 k, .int .u32 (t : Int), .int .u64 (e : Int), .int .u64 (o : Int), .int .u64 (s : Int), .string ⟨#[]⟩] 40)) p 40 [.int .i64 k, .int .u32 (t : Int), .int .u64 (e : Int), .int .u64 (o : Int), .int .u64 (s : Int), .string ⟨#[]⟩] := Whole.new_ hp.symm rfl
  have b3 : Below w2.heap.size w2 (w2.alloc (.cells #[.int .i64 k, .int .u32 (t : Int), .int .u64 (e : Int), .int .u64 (o : Int), .int .u64 (s : Int), .string ⟨#[]⟩] 40)) := (Below.refl _ _).alloc (Nat.le_refl _) _
  refine (CN.out _).mono ?_
  rintro en w4 ⟨rfl, b4⟩
  rw [HNB.out]
  have W4 := Lib.hid (W3.kept b4)
  have Z4 := Lib.hid ((W2.out.kept b3).kept b4)
  have B4 := Lib.hid ((B2.out.trans (b3.mono B2.out.size)).trans (b4.mono (B2.out.trans (b3.mono B2.out.size)).size))
  have hbp : bz < p := by rw [← hp]; exact W2.out.lt
  rw [hp]
  have HP := Lib.hid hp
  clear b3 b4 W3 W2 B2 CN hp
  have s1 : ∀ W, (Instr.slice 57 (.slice (some ⟨g, off, none⟩) n cap) none (some (.int .i64 35)) none).run Tryz.prog W = .ok (.slice (some ⟨g, off, none⟩) 35 cap) W := fun W => run_front g off n cap 35 (by omega) W
  have s2 : ∀ W, (Instr.slice 57 (.slice (some ⟨g, off, none⟩) n cap) (some (.int .i64 35)) (some (.int .i64 39)) none).run Tryz.prog W = .ok (.slice (some ⟨g, off + 35, none⟩) 4 (cap - 35)) W := run_sub g off n cap 35 39 (by omega) (by omega)
  have s3 : ∀ W, (Instr.slice 57 (.slice (some ⟨g, off, none⟩) n cap) (some (.int .i64 39)) (some (.int .i64 (39 + (m : Int)))) none).run Tryz.prog W = .ok (.slice (cutAt (some ⟨g, off, none⟩) cap 39) m (cap - 39)) W := fun W => by
    have h := run_cut (some ⟨g, off, none⟩) n cap 39 (39 + m) (by omega) (by have := HNN.out; omega) W
    rw [show 39 + m - 39 = m by omega, show ((39 + m : Nat) : Int) = 39 + (m : Int) by omega] at h
    exact h
  obtain ⟨ca, hca⟩ : ∃ ca, cutAt (some ⟨g, off, none⟩) cap 39 = ca := ⟨_, rfl⟩
  rw [hca] at s3
  have lb : Leads w4 ca (sub l 39 (39 + m)) := by
    rw [← hca]
    exact leads_cut ((HAT.out.later B4.out).leads) 39 (39 + m) (by omega) (by rw [HN.out]; exact HNN.out) (by rw [HN.out]; exact hc)
  have la : Leads w4 (some ⟨g, off, none⟩) (sub l 0 35) := by
    have := ((HAT.out.later B4.out).leads).take 35
    exact this
  have cS : ∀ q, Calls Tryz.prog 68 #[.slice (some ⟨g, off, none⟩) 35 cap, .slice ca m (cap - 39)] (w4.drewN q) fun e w'' => e = .returned (.int .u32 ((sm : Nat) : Int)) ∧ ∃ z, w'' = w4.drewN z := fun q =>
    (sum_any (w4.drewN q) ((HT.out.later B4.out).later (below_draws (Below.refl _ _) q)) _ _ 35 m cap (cap - 39) (sub l 0 35) (sub l 39 (39 + m)) (la.later (below_draws (Below.refl _ _) q)) (lb.later (below_draws (Below.refl _ _) q)) (sub_byte HB.out 0 35) (sub_byte HB.out 39 (39 + m)) (sub_length l 0 35 (by rw [HN.out]; omega)) HBOD.out (by decide) (by omega)).mono fun e w'' h => ⟨by rw [h.1, HSM.out], q, h.2.symm⟩
  have cG : ∀ q, Calls Tryz.prog 87 #[.slice (some ⟨g, off + 35, none⟩) 4 (cap - 35)] (w4.drewN q) fun e w'' => e = .returned (.int .u64 ((gv : Nat) : Int)) ∧ ∃ z, w'' = w4.drewN z := fun q =>
    (get_at _ 4 (sub l 35 39) (sub_length l 35 39 (by rw [HN.out]; omega)) (cap - 35) (w4.drewN q) (At.sub ((HAT.out.later B4.out).later (below_draws (Below.refl _ _) q)) 35 39 (by omega) (by rw [HN.out]; omega)) (sub_byte HB.out 35 39) (by omega) (by omega)).mono fun e w'' h => ⟨by rw [h.1, HGV.out], q, h.2.symm⟩
  have CS := Lib.hid cS
  have CG := Lib.hid cG
  have LB := Lib.hid lb
  have HCA := Lib.hid hca
  clear cS cG la lb hca
  go_wp2_with fail
  go_quiet ((first | (go_at_call 68; exact CS.out _) | (go_at_call 87; exact CG.out _)))
  have Z5 := Lib.hid (Z4.out.draws nq)
  have W5 := Lib.hid (W4.out.draws nq)
  have B5 := Lib.hid (below_draws B4.out nq)
  have L5 := Lib.hid (LB.out.later (below_draws (Below.refl _ _) nq))
  obtain ⟨w5, hw5⟩ : ∃ w5, w4.drewN nq = w5 := ⟨_, rfl⟩
  rw [hw5] at Z5 W5 B5 L5 ⊢
  clear hw5 Z4 W4 B4 LB CS CG s1 s2 s3
  go_wp2_with ((with_reducible show wpList _ _ _ (⟨none, _, _, _, _, _⟩ :: _) _ _); refine wpList_store_as rfl 40 (.tmp 2) (.tmp 50) rfl bz 0 #[.int .i64 0, .int .u32 0, .int .u64 0, .int .u64 0, .int .u64 0, .string ⟨#[]⟩] rfl rfl (Whole.there Z5.out 0 6 (Nat.le_refl 6)) recInfo (by simp [Value.oneCell']) ?_; intro w7 hw7; have HW7 := Lib.hid hw7; clear hw7)
  have wf7 : Whole w7 bz 40 [.int .i64 0, .int .u32 0, .int .u64 0, .int .u64 0, .int .u64 0, .string ⟨#[]⟩] := by
    rw [← HW7.out]
    exact Whole.lay [.int .i64 0, .int .u32 0, .int .u64 0, .int .u64 0, .int .u64 0, .string ⟨#[]⟩] 0 Z5.out (by decide)
  have b7 : Below w.heap.size w w7 := by
    rw [← HW7.out]
    exact below_lay _ _ _ B5.out (by rw [HBZ.out]; exact Nat.le_refl _)
  exact dec_ret rfl rfl rfl rfl wf7 rfl ⟨rfl, b7⟩
set_option maxRecDepth 100000 in
set_option maxHeartbeats 2000000 in
theorem dec_ok (a : Option Addr) (n cap : Nat) (l : List Int) (w : World) (hT : crc.Tab w) (hl : Leads w a l) (hb : Byte l) (hn : l.length = n) (hc : n ≤ cap) (hm : n ≤ 1000000000) (h1 : begB l = true) (h2 : 39 ≤ n) (h3 : numB (headOf l) = true) (h4 : lenOf l ≤ 1000) (h5 : 39 + lenOf l ≤ n) (h6 : sumOf (sub l 0 35 ++ sub l 39 (39 + lenOf l)) = val (sub l 35 39)) :
    Calls Tryz.prog 57 #[.slice a n cap] w (DecOut w (dec l)) := by
  have hd : dec l = ({ headOf l with body := str (sub l 39 (39 + lenOf l)) }, 39 + lenOf l, 0) := by unfold dec; rw [if_neg (by rw [h1]; simp), if_neg (by omega), if_neg (by rw [h3]; simp; omega), if_neg (by omega), if_neg (by rw [h6]; simp)]
  rw [hd]
  clear hd
  have c := begins_any a n cap l (w.alloc (.cells #[.int .i64 0, .int .u32 0, .int .u64 0, .int .u64 0, .int .u64 0, .string ⟨#[]⟩] 40)) (hl.later ((Below.refl _ _).alloc (Nat.le_refl _) _)) hb hn hc
  rw [h1] at c
  have C := Lib.hid c
  have HH1 := Lib.hid h1
  have HB := Lib.hid hb
  have HN := Lib.hid hn
  have HL := Lib.hid hl
  have HT := Lib.hid hT
  clear c h1 hb hn hl hT
  obtain ⟨g, off, rfl, hA⟩ := HL.out.at_ (by rw [HN.out]; omega)
  have hat : At w g off l := hA
  have HAT := Lib.hid hat
  have h2I : ¬ (n : Int) < 39 := by omega
  have hs1 : ∀ W, (Instr.slice 57 (.slice (some ⟨g, off, none⟩) n cap) none (some (.int .i64 39)) none).run Tryz.prog W = .ok (.slice (some ⟨g, off, none⟩) 39 cap) W := fun W => run_front g off n cap 39 (by omega) W
  have cN := fun W => mayNumbers_any (headOf l) W
  obtain ⟨k, hk⟩ : ∃ k, (headOf l).kind = k := ⟨_, rfl⟩
  obtain ⟨t, ht⟩ : ∃ t, (headOf l).tenant = t := ⟨_, rfl⟩
  obtain ⟨e, he⟩ : ∃ e, (headOf l).epoch = e := ⟨_, rfl⟩
  obtain ⟨o, ho⟩ : ∃ o, (headOf l).object = o := ⟨_, rfl⟩
  obtain ⟨s, hs⟩ : ∃ s, (headOf l).seq = s := ⟨_, rfl⟩
  have hv : (headOf l).val = .agg #[.int .i64 k, .int .u32 (t : Int), .int .u64 (e : Int), .int .u64 (o : Int), .int .u64 (s : Int), .string ⟨#[]⟩] := by
    rw [← hk, ← ht, ← he, ← ho, ← hs]; rfl
  rw [hv] at cN
  have HV := Lib.hid hv
  have HFLD := Lib.hid (And.intro hk (And.intro ht (And.intro he (And.intro ho hs))))
  have hll := lenOf_lt HB.out (by rw [HN.out]; omega)
  obtain ⟨m, hml⟩ : ∃ m, lenOf l = m := ⟨_, rfl⟩
  rw [hml] at hll
  have HML := Lib.hid hml
  have hnb : numB (headOf l) = true := h3
  have HNB := Lib.hid hnb
  clear hnb h3
  rw [hml] at h4 h5 h6
  have h4I : (m : Int) ≤ 1000 := by omega
  have h5I : ¬ (n : Int) < 39 + (m : Int) := by omega
  have HNN := Lib.hid h5
  clear h4 h5
  have CN := Lib.hid cN
  have hcap : 39 ≤ cap := by omega
  have HNM := Lib.hid hm
  have HN2 := Lib.hid h2
  have hbod : (sub l 39 (39 + m)).length = m := by rw [sub_length l 39 (39 + m) (by rw [HN.out]; omega)]; omega
  obtain ⟨sm, hsm⟩ : ∃ sm, sumOf (sub l 0 35 ++ sub l 39 (39 + m)) = sm := ⟨_, rfl⟩
  obtain ⟨gv, hgv⟩ : ∃ gv, val (sub l 35 39) = gv := ⟨_, rfl⟩
  rw [hsm, hgv] at h6
  have h6b : (IntKind.u64.wrap (sm : Int) != (gv : Int)) = false := by
    rw [show IntKind.u64.wrap (sm : Int) = (sm : Int) by rw [IntKind.wrap_u64]; have : sm < 4294967296 := by rw [← hsm]; exact sumOf_lt _
                                                         omega, h6]
    simp
  clear h6
  have HSM := Lib.hid hsm
  have HGV := Lib.hid hgv
  have HBOD := Lib.hid hbod
  clear hsm hgv hbod
  clear hA hat hk ht he ho hs hv hml cN hll hm h2
  go_enter Tryz.func57, Tryz.ntmps57
  go_wp2_with fail
  refine C.out.mono ?_
  rintro e w' ⟨rfl, q, hq⟩
  have b1 : Below w.heap.size w w' := by rw [hq]; exact below_draws ((Below.refl _ _).alloc (Nat.le_refl _) _) q
  have w1 : Whole w' w.heap.size 40 [.int .i64 0, .int .u32 0, .int .u64 0, .int .u64 0, .int .u64 0, .string ⟨#[]⟩] := by rw [hq]; exact (Whole.new_ rfl rfl).draws q
  have B1 := Lib.hid b1
  have W1 := Lib.hid w1
  clear hq b1 w1 C
  obtain ⟨bz, hbz⟩ : ∃ bz, w.heap.size = bz := ⟨_, rfl⟩
  rw [hbz] at W1 ⊢
  have HBZ := Lib.hid hbz
  clear hbz
  go_wp2_with fail
  refine (head_any g off cap (l.take 39) w' ((HAT.out.later B1.out).take 39) (HB.out.take 39) (by rw [List.length_take, HN.out]; omega) hcap).mono ?_
  rintro en w2 ⟨rfl, b2⟩
  rw [headOf_take, lenOf_take, HV.out, HML.out]
  have W2 := Lib.hid (W1.out.kept b2)
  have B2 := Lib.hid (B1.out.trans (b2.mono B1.out.size))
  clear b2 hs1 W1 B1
  go_wp2_with fail
  obtain ⟨p, hp⟩ : ∃ p, w2.heap.size = p := ⟨_, rfl⟩
  have W3 : Whole (w2.alloc (.cells #[.int .i64 k, .int .u32 (t : Int), .int .u64 (e : Int), .int .u64 (o : Int), .int .u64 (s : Int), .string ⟨#[]⟩] 40)) p 40 [.int .i64 k, .int .u32 (t : Int), .int .u64 (e : Int), .int .u64 (o : Int), .int .u64 (s : Int), .string ⟨#[]⟩] := Whole.new_ hp.symm rfl
  have b3 : Below w2.heap.size w2 (w2.alloc (.cells #[.int .i64 k, .int .u32 (t : Int), .int .u64 (e : Int), .int .u64 (o : Int), .int .u64 (s : Int), .string ⟨#[]⟩] 40)) := (Below.refl _ _).alloc (Nat.le_refl _) _
  refine (CN.out _).mono ?_
  rintro en w4 ⟨rfl, b4⟩
  rw [HNB.out]
  have W4 := Lib.hid (W3.kept b4)
  have Z4 := Lib.hid ((W2.out.kept b3).kept b4)
  have B4 := Lib.hid ((B2.out.trans (b3.mono B2.out.size)).trans (b4.mono (B2.out.trans (b3.mono B2.out.size)).size))
  have hbp : bz < p := by rw [← hp]; exact W2.out.lt
  rw [hp]
  have HP := Lib.hid hp
  clear b3 b4 W3 W2 B2 CN hp
  have s1 : ∀ W, (Instr.slice 57 (.slice (some ⟨g, off, none⟩) n cap) none (some (.int .i64 35)) none).run Tryz.prog W = .ok (.slice (some ⟨g, off, none⟩) 35 cap) W := fun W => run_front g off n cap 35 (by omega) W
  have s2 : ∀ W, (Instr.slice 57 (.slice (some ⟨g, off, none⟩) n cap) (some (.int .i64 35)) (some (.int .i64 39)) none).run Tryz.prog W = .ok (.slice (some ⟨g, off + 35, none⟩) 4 (cap - 35)) W := run_sub g off n cap 35 39 (by omega) (by omega)
  have s3 : ∀ W, (Instr.slice 57 (.slice (some ⟨g, off, none⟩) n cap) (some (.int .i64 39)) (some (.int .i64 (39 + (m : Int)))) none).run Tryz.prog W = .ok (.slice (cutAt (some ⟨g, off, none⟩) cap 39) m (cap - 39)) W := fun W => by
    have h := run_cut (some ⟨g, off, none⟩) n cap 39 (39 + m) (by omega) (by have := HNN.out; omega) W
    rw [show 39 + m - 39 = m by omega, show ((39 + m : Nat) : Int) = 39 + (m : Int) by omega] at h
    exact h
  obtain ⟨ca, hca⟩ : ∃ ca, cutAt (some ⟨g, off, none⟩) cap 39 = ca := ⟨_, rfl⟩
  rw [hca] at s3
  have lb : Leads w4 ca (sub l 39 (39 + m)) := by
    rw [← hca]
    exact leads_cut ((HAT.out.later B4.out).leads) 39 (39 + m) (by omega) (by rw [HN.out]; exact HNN.out) (by rw [HN.out]; exact hc)
  have la : Leads w4 (some ⟨g, off, none⟩) (sub l 0 35) := by
    have := ((HAT.out.later B4.out).leads).take 35
    exact this
  have cS : ∀ q, Calls Tryz.prog 68 #[.slice (some ⟨g, off, none⟩) 35 cap, .slice ca m (cap - 39)] (w4.drewN q) fun e w'' => e = .returned (.int .u32 ((sm : Nat) : Int)) ∧ ∃ z, w'' = w4.drewN z := fun q =>
    (sum_any (w4.drewN q) ((HT.out.later B4.out).later (below_draws (Below.refl _ _) q)) _ _ 35 m cap (cap - 39) (sub l 0 35) (sub l 39 (39 + m)) (la.later (below_draws (Below.refl _ _) q)) (lb.later (below_draws (Below.refl _ _) q)) (sub_byte HB.out 0 35) (sub_byte HB.out 39 (39 + m)) (sub_length l 0 35 (by rw [HN.out]; omega)) HBOD.out (by decide) (by omega)).mono fun e w'' h => ⟨by rw [h.1, HSM.out], q, h.2.symm⟩
  have cG : ∀ q, Calls Tryz.prog 87 #[.slice (some ⟨g, off + 35, none⟩) 4 (cap - 35)] (w4.drewN q) fun e w'' => e = .returned (.int .u64 ((gv : Nat) : Int)) ∧ ∃ z, w'' = w4.drewN z := fun q =>
    (get_at _ 4 (sub l 35 39) (sub_length l 35 39 (by rw [HN.out]; omega)) (cap - 35) (w4.drewN q) (At.sub ((HAT.out.later B4.out).later (below_draws (Below.refl _ _) q)) 35 39 (by omega) (by rw [HN.out]; omega)) (sub_byte HB.out 35 39) (by omega) (by omega)).mono fun e w'' h => ⟨by rw [h.1, HGV.out], q, h.2.symm⟩
  have CS := Lib.hid cS
  have CG := Lib.hid cG
  have LB := Lib.hid lb
  have HCA := Lib.hid hca
  clear cS cG la lb hca
  go_wp2_with fail
  go_quiet ((first | (go_at_call 68; exact CS.out _) | (go_at_call 87; exact CG.out _)))
  have Z5 := Lib.hid (Z4.out.draws nq)
  have W5 := Lib.hid (W4.out.draws nq)
  have B5 := Lib.hid (below_draws B4.out nq)
  have L5 := Lib.hid (LB.out.later (below_draws (Below.refl _ _) nq))
  obtain ⟨w5, hw5⟩ : ∃ w5, w4.drewN nq = w5 := ⟨_, rfl⟩
  rw [hw5] at Z5 W5 B5 L5 ⊢
  clear hw5 Z4 W4 B4 LB CS CG s1 s2 s3
  have hst : (convert 57 9 (.slice ca m (cap - 39))).run Tryz.prog w5 = .ok (.string (str (sub l 39 (39 + m)))) w5 := by
    have := run_str L5.out (sub_byte HB.out 39 (39 + m)) (cap - 39)
    rw [HBOD.out] at this
    exact this
  obtain ⟨bd, hbd⟩ : ∃ bd, str (sub l 39 (39 + m)) = bd := ⟨_, rfl⟩
  rw [hbd] at hst
  have HBD := Lib.hid hbd
  clear hbd
  have cp := W5.out.at_ 5
  have fp := W5.out.free 5
  have W6 := Lib.hid (W5.out.put 5 (.string bd))
  have Z6 := Lib.hid (Z5.out.apart (p := ⟨p, 5, none⟩) (show bz ≠ p by omega) (.string bd))
  have B6 := Lib.hid (B5.out.setCell (p := ⟨p, 5, none⟩) (show w.heap.size ≤ p by rw [HBZ.out]; omega) (.string bd))
  go_wp2_with (first
    | ((with_reducible show wpList _ _ _ (⟨some 54, _, _, _, _, _⟩ :: _) _ _); refine wpList_load_mid rfl 40 (.tmp 5) rfl p 0 rfl [.int .i64 k, .int .u32 (t : Int), .int .u64 (e : Int), .int .u64 (o : Int), .int .u64 (s : Int), .string bd] _ (W6.out.range 0 6) Tryz.underlying40 rfl recInfo ?_)
    | ((with_reducible show wpList _ _ _ (⟨none, _, _, _, _, _⟩ :: _) _ _); refine wpList_store_as rfl 40 (.tmp 2) (.tmp 54) rfl bz 0 #[.int .i64 k, .int .u32 (t : Int), .int .u64 (e : Int), .int .u64 (o : Int), .int .u64 (s : Int), .string bd] rfl rfl (Whole.there Z6.out 0 6 (Nat.le_refl 6)) recInfo (by simp [Value.oneCell']) ?_; intro w7 hw7; have HW7 := Lib.hid hw7; clear hw7))
  have wf7 : Whole w7 bz 40 [.int .i64 k, .int .u32 (t : Int), .int .u64 (e : Int), .int .u64 (o : Int), .int .u64 (s : Int), .string bd] := by
    rw [← HW7.out]
    exact Whole.lay [.int .i64 k, .int .u32 (t : Int), .int .u64 (e : Int), .int .u64 (o : Int), .int .u64 (s : Int), .string bd] 0 Z6.out (Nat.le_refl 6)
  have b7 : Below w.heap.size w w7 := by
    rw [← HW7.out]
    exact below_lay _ _ _ B6.out (by rw [HBZ.out]; exact Nat.le_refl _)
  refine dec_ret (n := .int .i64 (39 + (m : Int))) (e := .int .i64 0) rfl rfl rfl rfl wf7 rfl ⟨?_, b7⟩
  unfold decV Rec.val
  rw [HML.out, HBD.out, HFLD.out.1, HFLD.out.2.1, HFLD.out.2.2.1, HFLD.out.2.2.2.1, HFLD.out.2.2.2.2]
  simp only [show ((39 + m : Nat) : Int) = 39 + (m : Int) by omega]
theorem Decode_any (a : Option Addr) (n cap : Nat) (l : List Int) (w : World) (hT : crc.Tab w) (hl : Leads w a l) (hb : Byte l) (hn : l.length = n) (hc : n ≤ cap) (hm : n ≤ 1000000000) :
    Calls Tryz.prog 57 #[.slice a n cap] w (DecOut w (dec l)) := by
  cases h1 : begB l
  · exact dec_beg a n cap l w hT hl hb hn hc hm h1
  · by_cases h2 : n < 39
    · exact dec_short a n cap l w hT hl hb hn hc hm h1 h2
    · cases h3 : numB (headOf l)
      · exact dec_num a n cap l w hT hl hb hn hc hm h1 (by omega) h3
      · by_cases h4 : 1000 < lenOf l
        · exact dec_len a n cap l w hT hl hb hn hc hm h1 (by omega) h3 h4
        · by_cases h5 : n < 39 + lenOf l
          · exact dec_more a n cap l w hT hl hb hn hc hm h1 (by omega) h3 (by omega) h5
          · by_cases h6 : sumOf (sub l 0 35 ++ sub l 39 (39 + lenOf l)) = val (sub l 35 39)
            · exact dec_ok a n cap l w hT hl hb hn hc hm h1 (by omega) h3 (by omega) (by omega) h6
            · exact dec_bad a n cap l w hT hl hb hn hc hm h1 (by omega) h3 (by omega) (by omega) h6
end Go.Proofs.YtdonblfidohncaaGreatDoor.recd
/-
  PLAIN MATHEMATICS OF RECORDS READ BACK (P6.1): what the bytes of a record tell; a record that is cut. No program stands in it.
-/

namespace Go.Proofs.YtdonblfidohncaaGreatDoor.recd
open Go.RowKit Go.Proofs.YtdonblfidohncaaGreatDoor.num Go.Proofs.YtdonblfidohncaaGreatDoor.disk

theorem sub_mid (a m c : List Int) (p q : Nat) (hp : a.length = p) (hq : a.length + m.length = q) : sub (a ++ (m ++ c)) p q = m := by
  subst hp hq
  unfold sub
  rw [List.drop_left, show a.length + m.length - a.length = m.length by omega, List.take_left]
section
variable (r : Rec)
theorem enc_kind : sub (encL r) 2 3 = be r.kind.toNat 1 := by
  have e : encL r = [83, 82] ++ (be r.kind.toNat 1 ++ (be r.tenant 4 ++ be r.epoch 8 ++ be r.object 8 ++ be r.seq 8 ++ be r.body.size 4 ++ be (sumOf (numL r ++ bs r.body)) 4 ++ bs r.body)) := by simp only [encL, numL, List.append_assoc]
  rw [e]; exact sub_mid _ _ _ _ _ rfl (by simp [be_length])
theorem enc_tenant : sub (encL r) 3 7 = be r.tenant 4 := by
  have e : encL r = ([83, 82] ++ be r.kind.toNat 1) ++ (be r.tenant 4 ++ (be r.epoch 8 ++ be r.object 8 ++ be r.seq 8 ++ be r.body.size 4 ++ be (sumOf (numL r ++ bs r.body)) 4 ++ bs r.body)) := by simp only [encL, numL, List.append_assoc]
  rw [e]; exact sub_mid _ _ _ _ _ (by simp [be_length]) (by simp [be_length])
theorem enc_epoch : sub (encL r) 7 15 = be r.epoch 8 := by
  have e : encL r = ([83, 82] ++ be r.kind.toNat 1 ++ be r.tenant 4) ++ (be r.epoch 8 ++ (be r.object 8 ++ be r.seq 8 ++ be r.body.size 4 ++ be (sumOf (numL r ++ bs r.body)) 4 ++ bs r.body)) := by simp only [encL, numL, List.append_assoc]
  rw [e]; exact sub_mid _ _ _ _ _ (by simp [be_length]) (by simp [be_length])
theorem enc_object : sub (encL r) 15 23 = be r.object 8 := by
  have e : encL r = ([83, 82] ++ be r.kind.toNat 1 ++ be r.tenant 4 ++ be r.epoch 8) ++ (be r.object 8 ++ (be r.seq 8 ++ be r.body.size 4 ++ be (sumOf (numL r ++ bs r.body)) 4 ++ bs r.body)) := by simp only [encL, numL, List.append_assoc]
  rw [e]; exact sub_mid _ _ _ _ _ (by simp [be_length]) (by simp [be_length])
theorem enc_seq : sub (encL r) 23 31 = be r.seq 8 := by
  have e : encL r = ([83, 82] ++ be r.kind.toNat 1 ++ be r.tenant 4 ++ be r.epoch 8 ++ be r.object 8) ++ (be r.seq 8 ++ (be r.body.size 4 ++ be (sumOf (numL r ++ bs r.body)) 4 ++ bs r.body)) := by simp only [encL, numL, List.append_assoc]
  rw [e]; exact sub_mid _ _ _ _ _ (by simp [be_length]) (by simp [be_length])
theorem enc_size : sub (encL r) 31 35 = be r.body.size 4 := by
  have e : encL r = ([83, 82] ++ be r.kind.toNat 1 ++ be r.tenant 4 ++ be r.epoch 8 ++ be r.object 8 ++ be r.seq 8) ++ (be r.body.size 4 ++ (be (sumOf (numL r ++ bs r.body)) 4 ++ bs r.body)) := by simp only [encL, numL, List.append_assoc]
  rw [e]; exact sub_mid _ _ _ _ _ (by simp [be_length]) (by simp [be_length])
theorem enc_nums : sub (encL r) 0 35 = numL r := by
  have e : encL r = [] ++ (numL r ++ (be (sumOf (numL r ++ bs r.body)) 4 ++ bs r.body)) := by simp only [encL, List.nil_append, List.append_assoc]
  rw [e]; exact sub_mid _ _ _ _ _ rfl (by simp [numL_length])
theorem enc_sum : sub (encL r) 35 39 = be (sumOf (numL r ++ bs r.body)) 4 := by
  have e : encL r = numL r ++ (be (sumOf (numL r ++ bs r.body)) 4 ++ bs r.body) := by simp only [encL, List.append_assoc]
  rw [e]; exact sub_mid _ _ _ _ _ (numL_length r) (by simp [numL_length, be_length])
theorem enc_body : sub (encL r) 39 (39 + r.body.size) = bs r.body := by
  have e : encL r = (numL r ++ be (sumOf (numL r ++ bs r.body)) 4) ++ (bs r.body ++ []) := by simp only [encL, List.append_nil]
  rw [e]; exact sub_mid _ _ _ _ _ (by simp [numL_length, be_length]) (by simp only [List.length_append, numL_length, be_length, bs_length])
end
/-- The numbers are those of one that may be. -/
theorem May.of {r : Rec} (h : mayB r = true) : (1 ≤ r.kind ∧ r.kind ≤ 4) ∧ r.epoch ≤ 1099511627776 ∧ r.object ≤ 1099511627776 ∧ r.seq ≤ 1099511627776 ∧ r.body.size ≤ 1000 := by
  unfold mayB numB isKindB at h
  simp only [Bool.and_eq_true, decide_eq_true_eq] at h
  exact ⟨h.1.1, h.1.2.1, h.1.2.2.1, h.1.2.2.2, h.2⟩
theorem head_enc (r : Rec) (h : mayB r = true) (ht : r.tenant < 4294967296) : headOf (encL r) = { r with body := ByteArray.empty } := by
  obtain ⟨⟨k1, k2⟩, h1, h2, h3, _⟩ := May.of h
  unfold headOf
  rw [enc_kind, enc_tenant, enc_epoch, enc_object, enc_seq, val_be 1 _ (by omega), val_be 4 _ (by rw [show (256 : Nat) ^ 4 = 4294967296 by decide]; exact ht), val_be 8 _ (by rw [show (256 : Nat) ^ 8 = 18446744073709551616 by decide]; omega),
    val_be 8 _ (by rw [show (256 : Nat) ^ 8 = 18446744073709551616 by decide]; omega), val_be 8 _ (by rw [show (256 : Nat) ^ 8 = 18446744073709551616 by decide]; omega), show ((r.kind.toNat : Nat) : Int) = r.kind by omega]
theorem len_enc (r : Rec) (h : mayB r = true) : lenOf (encL r) = r.body.size := by
  obtain ⟨_, _, _, _, h4⟩ := May.of h
  unfold lenOf
  rw [enc_size, val_be 4 _ (by rw [show (256 : Nat) ^ 4 = 4294967296 by decide]; omega)]
theorem num_head {r : Rec} (h : mayB r = true) : numB { r with body := ByteArray.empty } = true := by
  have : numB { r with body := ByteArray.empty } = numB r := rfl
  rw [this]
  unfold mayB at h
  simp only [Bool.and_eq_true] at h
  exact h.1
theorem enc_front (r : Rec) (h : mayB r = true) : ∃ c rest, encL r = 83 :: 82 :: c :: rest ∧ isKindB c = true := by
  obtain ⟨⟨k1, k2⟩, _⟩ := May.of h
  refine ⟨((r.kind.toNat % 256 : Nat) : Int), be r.tenant 4 ++ be r.epoch 8 ++ be r.object 8 ++ be r.seq 8 ++ be r.body.size 4 ++ be (sumOf (numL r ++ bs r.body)) 4 ++ bs r.body, ?_, ?_⟩
  · simp [encL, numL, be]
  · unfold isKindB; rw [decide_eq_true_eq]; omega
theorem beg_take (r : Rec) (h : mayB r = true) (k : Nat) : begB ((encL r).take k) = true := by
  obtain ⟨c, rest, e, hc⟩ := enc_front r h
  rw [e]
  match k with
  | 0 => rfl
  | 1 => rfl
  | 2 => rfl
  | k + 3 =>
    simp only [List.take_succ_cons]
    unfold begB
    rw [show min (83 :: 82 :: c :: List.take k rest).length 2 = 2 by simp only [List.length_cons]; omega]
    have e1 : decide (List.take 2 (83 :: 82 :: c :: List.take k rest) = List.take 2 ([83, 82] : List Int)) = true := decide_eq_true rfl
    have e2 : isKindB ((83 :: 82 :: c :: List.take k rest).getD 2 0) = true := hc
    rw [e1, e2]
    simp
/-- A record's bytes are read back, whatever stands behind them. -/
theorem sub_front (a c : List Int) (p q : Nat) (h : q ≤ a.length) : sub (a ++ c) p q = sub a p q := by
  unfold sub
  by_cases hp : p ≤ a.length
  · rw [List.drop_append_of_le_length hp, List.take_append_of_le_length (by rw [List.length_drop]; omega)]
  · rw [show q - p = 0 by omega, List.take_zero, List.take_zero]
theorem dec_enc (r : Rec) (h : mayB r = true) (ht : r.tenant < 4294967296) : dec (encL r) = (r, 39 + r.body.size, 0) := by
  have hb := beg_take r h (encL r).length
  rw [List.take_length] at hb
  have hl := encL_length r
  obtain ⟨_, _, _, _, h4⟩ := May.of h
  have hs : sumOf (numL r ++ bs r.body) < 256 ^ 4 := by rw [show (256 : Nat) ^ 4 = 4294967296 by decide]; exact (crc.sum _).isLt
  unfold dec
  rw [if_neg (by rw [hb]; simp), if_neg (by omega), head_enc r h ht, len_enc r h, if_neg (by rw [num_head h]; simp; omega), if_neg (by omega), enc_nums, enc_body, enc_sum, val_be 4 _ hs, if_neg (by simp), str_bs]
theorem dec_cut (r : Rec) (h : mayB r = true) (ht : r.tenant < 4294967296) (k : Nat) (hk : k < (encL r).length) : dec ((encL r).take k) = (zeroRec, 0, 11) := by
  have hb := beg_take r h k
  have hl := encL_length r
  have hlen : ((encL r).take k).length = k := by rw [List.length_take]; omega
  obtain ⟨_, _, _, _, h4⟩ := May.of h
  unfold dec
  rw [if_neg (by rw [hb]; simp)]
  by_cases h1 : k < 39
  · rw [if_pos (by omega)]
  · have hsub : ∀ p q, q ≤ 39 → sub ((encL r).take k) p q = sub (encL r) p q := fun p q hq => by
      conv => rhs; rw [← List.take_append_drop k (encL r)]
      rw [sub_front _ _ _ _ (by omega)]
    have hh : headOf ((encL r).take k) = headOf (encL r) := by
      unfold headOf
      rw [hsub 2 3 (by omega), hsub 3 7 (by omega), hsub 7 15 (by omega), hsub 15 23 (by omega), hsub 23 31 (by omega)]
    have hn : lenOf ((encL r).take k) = lenOf (encL r) := by unfold lenOf; rw [hsub 31 35 (by omega)]
    rw [if_neg (by omega), hh, hn, head_enc r h ht, len_enc r h, if_neg (by rw [num_head h]; simp; omega), if_pos (by omega)]
end Go.Proofs.YtdonblfidohncaaGreatDoor.recd
/-
  CONTRACTS of the statements' small helpers: stillroomlaw1.Cut, stillroomlaw6.Cut, stillroomref6.May, stillroomlaw6.begun.
-/


namespace Go.Proofs.YtdonblfidohncaaGreatDoor.recd
open Go.RowKit Go.Proofs.YtdonblfidohncaaGreatDoor.num Go.Proofs.YtdonblfidohncaaGreatDoor.disk
set_option linter.unusedVariables false

/-- A text, not too long. -/
def cutS (s : ByteArray) (n : Nat) : ByteArray := if n < s.size then s.extract 0 n else s
theorem bs_extract (s : ByteArray) (n : Nat) (h : n ≤ s.size) : bs (s.extract 0 n) = (bs s).take n := by
  unfold bs
  rw [ByteArray.data_extract, Array.toList_extract, ← List.map_take]
  simp [List.extract]
theorem cutS_size (s : ByteArray) (n : Nat) : (cutS s n).size = min s.size n := by
  unfold cutS
  by_cases h : n < s.size
  · rw [if_pos h, ByteArray.size_extract]; omega
  · rw [if_neg h]; omega
theorem cutText_any (s : ByteArray) (n : Nat) (hn : n ≤ 1000) (hs : s.size ≤ maxLen) (w : World) : Calls Tryz.prog 94 #[.string s, .int .i64 (n : Int)] w fun e w' => e = .returned (.string (cutS s n)) ∧ w = w' := by
  unfold maxLen at hs
  by_cases h : n < s.size
  · have h1 : (n : Int) < (s.size : Int) := by omega
    have e : cutS s n = s.extract 0 n := by unfold cutS; rw [if_pos h]
    rw [e]
    clear e
    go_enter Tryz.func94, Tryz.ntmps94
    go_wp2
    go_ret
    exact ⟨rfl, rfl⟩
  · have h1 : ¬ (n : Int) < (s.size : Int) := by omega
    have e : cutS s n = s := by unfold cutS; rw [if_neg h]
    rw [e]
    clear e
    go_enter Tryz.func94, Tryz.ntmps94
    go_wp2
    go_ret
    exact ⟨rfl, rfl⟩

/-- A record, its Body not too long. -/
def cutR (r : Rec) (n : Nat) : Rec := { r with body := cutS r.body n }
set_option maxHeartbeats 1000000 in
theorem cutRec_any (r : Rec) (n : Nat) (hn : n ≤ 1000) (hf : r.Fit) (w : World) : Calls Tryz.prog 64 #[r.val, .int .i64 (n : Int)] w fun e w' => e = .returned (cutR r n).val ∧ Below w.heap.size w w' := by
  have hb := hf.body
  have C := Lib.hid (fun W => cutText_any r.body n hn hb W)
  obtain ⟨k, t, e, o, s, b⟩ := r
  unfold cutR Rec.val at *
  simp only at C ⊢
  obtain ⟨c, hc⟩ : ∃ c, cutS b n = c := ⟨_, rfl⟩
  rw [hc] at C ⊢
  clear hc hb hf
  go_enter Tryz.func64, Tryz.ntmps64
  go_wp2_with fail
  refine (C.out _).mono ?_
  rintro en w' ⟨rfl, rfl⟩
  go_wp2_with fail
  refine bodyPost_ret (v := .agg #[.int .i64 k, .int .u32 (t : Int), .int .u64 (e : Int), .int .u64 (o : Int), .int .u64 (s : Int), .string c]) (by simp [results, Tryz.results64, go_sem]) rfl ⟨rfl, ?_⟩
  exact ((Below.refl _ _).alloc (Nat.le_refl _) _).alloc (by simp) _
end Go.Proofs.YtdonblfidohncaaGreatDoor.recd
/-
  CONTRACTS of stillroomref6.May, stillroomlaw6.begun.
-/

namespace Go.Proofs.YtdonblfidohncaaGreatDoor.recd
open Go.RowKit Go.Proofs.YtdonblfidohncaaGreatDoor.num Go.Proofs.YtdonblfidohncaaGreatDoor.disk
set_option linter.unusedVariables false

theorem mayB_eq (k : Int) (t e o s : Nat) (b : ByteArray) : mayB ⟨k, t, e, o, s, b⟩ = decide ((1 ≤ k ∧ k ≤ 4) ∧ (e : Int) ≤ 1099511627776 ∧ (o : Int) ≤ 1099511627776 ∧ (s : Int) ≤ 1099511627776 ∧ (b.size : Int) ≤ 1000) := by
  unfold mayB numB isKindB
  rw [Bool.eq_iff_iff]
  simp only [Bool.and_eq_true, decide_eq_true_eq]
  omega
set_option maxHeartbeats 1000000 in
theorem rMay_any (r : Rec) (w : World) (hf : r.Fit) : Calls Tryz.prog 65 #[r.val] w fun e w' => e = .returned (.bool (mayB r)) ∧ Below w.heap.size w w' := by
  have hb := hf.body
  unfold maxLen at hb
  clear hf
  obtain ⟨k, t, e, o, s, b⟩ := r
  unfold Rec.val
  simp only at hb ⊢
  rw [mayB_eq]
  have B : Hid (Below w.heap.size w (w.alloc (.cells #[.int .i64 k, .int .u32 (t : Int), .int .u64 (e : Int), .int .u64 (o : Int), .int .u64 (s : Int), .string b] 40))) := (Below.refl _ _).alloc (Nat.le_refl _) _
  by_cases k1 : 1 ≤ k
  · by_cases k2 : k ≤ 4
    · by_cases c1 : (e : Int) ≤ 1099511627776
      · by_cases c2 : (o : Int) ≤ 1099511627776
        · by_cases c3 : (s : Int) ≤ 1099511627776
          · by_cases c4 : (b.size : Int) ≤ 1000
            · obtain ⟨v, hv⟩ : ∃ v, decide ((1 ≤ k ∧ k ≤ 4) ∧ (e : Int) ≤ 1099511627776 ∧ (o : Int) ≤ 1099511627776 ∧ (s : Int) ≤ 1099511627776 ∧ (b.size : Int) ≤ 1000) = v := ⟨_, rfl⟩
              rw [hv]
              have hv2 : v = true := by rw [← hv]; exact decide_eq_true (by omega)
              have HV := Lib.hid hv2
              clear hv hv2
              go_enter Tryz.func65, Tryz.ntmps65
              go_wp2
              go_ret
              exact ⟨ret_bool (by first | exact HV.out.symm | (rw [HV.out]; simpa using ‹_›)), B.out⟩
            · obtain ⟨v, hv⟩ : ∃ v, decide ((1 ≤ k ∧ k ≤ 4) ∧ (e : Int) ≤ 1099511627776 ∧ (o : Int) ≤ 1099511627776 ∧ (s : Int) ≤ 1099511627776 ∧ (b.size : Int) ≤ 1000) = v := ⟨_, rfl⟩
              rw [hv]
              have hv2 : v = false := by rw [← hv]; exact decide_eq_false (by omega)
              have HV := Lib.hid hv2
              clear hv hv2
              go_enter Tryz.func65, Tryz.ntmps65
              go_wp2
              go_ret
              exact ⟨ret_bool (by first | exact HV.out.symm | (rw [HV.out]; simpa using ‹_›)), B.out⟩
          · obtain ⟨v, hv⟩ : ∃ v, decide ((1 ≤ k ∧ k ≤ 4) ∧ (e : Int) ≤ 1099511627776 ∧ (o : Int) ≤ 1099511627776 ∧ (s : Int) ≤ 1099511627776 ∧ (b.size : Int) ≤ 1000) = v := ⟨_, rfl⟩
            rw [hv]
            have hv2 : v = false := by rw [← hv]; exact decide_eq_false (by omega)
            have HV := Lib.hid hv2
            clear hv hv2
            go_enter Tryz.func65, Tryz.ntmps65
            go_wp2
            go_ret
            exact ⟨ret_bool (by first | exact HV.out.symm | (rw [HV.out]; simpa using ‹_›)), B.out⟩
        · obtain ⟨v, hv⟩ : ∃ v, decide ((1 ≤ k ∧ k ≤ 4) ∧ (e : Int) ≤ 1099511627776 ∧ (o : Int) ≤ 1099511627776 ∧ (s : Int) ≤ 1099511627776 ∧ (b.size : Int) ≤ 1000) = v := ⟨_, rfl⟩
          rw [hv]
          have hv2 : v = false := by rw [← hv]; exact decide_eq_false (by omega)
          have HV := Lib.hid hv2
          clear hv hv2
          go_enter Tryz.func65, Tryz.ntmps65
          go_wp2
          go_ret
          exact ⟨ret_bool (by first | exact HV.out.symm | (rw [HV.out]; simpa using ‹_›)), B.out⟩
      · obtain ⟨v, hv⟩ : ∃ v, decide ((1 ≤ k ∧ k ≤ 4) ∧ (e : Int) ≤ 1099511627776 ∧ (o : Int) ≤ 1099511627776 ∧ (s : Int) ≤ 1099511627776 ∧ (b.size : Int) ≤ 1000) = v := ⟨_, rfl⟩
        rw [hv]
        have hv2 : v = false := by rw [← hv]; exact decide_eq_false (by omega)
        have HV := Lib.hid hv2
        clear hv hv2
        go_enter Tryz.func65, Tryz.ntmps65
        go_wp2
        go_ret
        exact ⟨ret_bool (by first | exact HV.out.symm | (rw [HV.out]; simpa using ‹_›)), B.out⟩
    · obtain ⟨v, hv⟩ : ∃ v, decide ((1 ≤ k ∧ k ≤ 4) ∧ (e : Int) ≤ 1099511627776 ∧ (o : Int) ≤ 1099511627776 ∧ (s : Int) ≤ 1099511627776 ∧ (b.size : Int) ≤ 1000) = v := ⟨_, rfl⟩
      rw [hv]
      have hv2 : v = false := by rw [← hv]; exact decide_eq_false (by omega)
      have HV := Lib.hid hv2
      clear hv hv2
      go_enter Tryz.func65, Tryz.ntmps65
      go_wp2
      go_ret
      exact ⟨ret_bool (by first | exact HV.out.symm | (rw [HV.out]; simpa using ‹_›)), B.out⟩
  · obtain ⟨v, hv⟩ : ∃ v, decide ((1 ≤ k ∧ k ≤ 4) ∧ (e : Int) ≤ 1099511627776 ∧ (o : Int) ≤ 1099511627776 ∧ (s : Int) ≤ 1099511627776 ∧ (b.size : Int) ≤ 1000) = v := ⟨_, rfl⟩
    rw [hv]
    have hv2 : v = false := by rw [← hv]; exact decide_eq_false (by omega)
    have HV := Lib.hid hv2
    clear hv hv2
    go_enter Tryz.func65, Tryz.ntmps65
    go_wp2
    go_ret
    exact ⟨ret_bool (by first | exact HV.out.symm | (rw [HV.out]; simpa using ‹_›)), B.out⟩


def beg0 : Rec := ⟨2, 2, 0, 0, 0, ⟨#[97, 98]⟩⟩
theorem beg0_may : mayB beg0 = true := by decide
end Go.Proofs.YtdonblfidohncaaGreatDoor.recd
/-
  CONTRACT of the reference's Encode (stillroomref6).
-/


namespace Go.Proofs.YtdonblfidohncaaGreatDoor.recd
open Go.RowKit Go.Proofs.YtdonblfidohncaaGreatDoor.num Go.Proofs.YtdonblfidohncaaGreatDoor.disk
set_option linter.unusedVariables false

theorem renc_no (r : Rec) (w : World) (hf : r.Fit) (hm : mayB r = false) : Calls Tryz.prog 48 #[r.val] w (Made w []) := by
  have C := Lib.hid (fun W => rMay_any r W hf)
  obtain ⟨k, t, e, o, s, b⟩ := r
  unfold Rec.val at C ⊢
  simp only at C ⊢
  have HM := Lib.hid hm
  clear hm hf
  go_enter Tryz.func48, Tryz.ntmps48
  go_wp2_with fail
  refine (C.out _).mono ?_
  rintro en w' ⟨rfl, bw⟩
  rw [HM.out]
  have fin : Made w [] (.returned (.slice none 0 0)) w' := ⟨_, rfl, Own.none_ _, (fun g hg => by cases hg), ((Below.refl _ _).alloc (Nat.le_refl _) _).trans (bw.mono (by simp))⟩
  have F := Lib.hid fin
  clear bw fin
  go_wp2
  go_ret
  exact F.out

theorem step_append_run {w w' : World} {v' : Value} {ops : Array Oper} {o : Oper} {a : Act} {K : Act → World → Prop} {Q : Exit → Act → World → Prop} {E : Prop} (T : TypeId) (s x : Operand) (v u : Value) (hw : Region.wanted o (yielded ops a.tmps) = true)
    (ho : o.op = .call { callee := .builtin .append, args := #[s, x], argTypes := #[57, T] }) (hty : o.type = 57) (hs : a.eval s = v) (hx : a.eval x = u)
    (hrun : (Builtin.append_ #[57, T] 57 #[v, u]).run Tryz.prog w = .ok v' w')
    (h : K (a.put o.dst v') w') : if Region.wanted o (yielded ops a.tmps) = true then Oper.wp Tryz.prog o a w K Q else E := by
  rw [if_pos hw]
  unfold Oper.wp execOp
  simp only [ho, hty, resolve, invoke, builtin, Sem.run_bind, Sem.run_pure, Result.andThen_ok, List.map_toArray, List.map_cons, List.map_nil, hs, hx, hrun]
  exact h
theorem grow_three (w0 w : World) (c : Int) (hb : Below w0.heap.size w0 w) : Grow w0 [83, 82, c] (.slice (some ⟨w.heap.size, 0, none⟩) 3 3) (w.alloc (.cells #[.int .u8 83, .int .u8 82, .int .u8 c] 5)) :=
  ⟨⟨rfl, .inr ⟨w.heap.size, 3, _, rfl, Nat.zero_le _, heap_alloc_new w _, Nat.le_refl _, by show 3 ≤ maxLen; unfold maxLen; omega, rfl, rfl⟩⟩, fun g hg => by
    simp [Value.ownBlock] at hg; have := hb.size; omega, hb.alloc hb.size _⟩

set_option maxRecDepth 100000 in
set_option maxHeartbeats 4000000 in
theorem renc_yes (r : Rec) (w : World) (hf : r.Fit) (hm : mayB r = true) : Calls Tryz.prog 48 #[r.val] w (Made w (encL r)) := by
  have hmb := hm
  unfold mayB numB isKindB at hmb
  simp only [Bool.and_eq_true, decide_eq_true_eq] at hmb
  obtain ⟨⟨⟨hk1, hk2⟩, -⟩, hbs⟩ := hmb
  have C := Lib.hid (fun W => rMay_any r W hf)
  obtain ⟨k, t, e, o, s, b⟩ := r
  simp only at hk1 hk2 hbs
  obtain ⟨kn, rfl⟩ := Int.eq_ofNat_of_zero_le (show 0 ≤ k by omega)
  have htn : (t : Int) < 4294967296 := by have := hf.tenant; simp only at this; omega
  unfold Rec.val at C ⊢
  simp only at C ⊢
  have hm' : mayB ⟨(kn : Int), t, e, o, s, b⟩ = true := hm
  have HM := Lib.hid hm'
  have hb1 : (b.size : Int) ≤ 1000 := by omega
  have hb0 : b.size ≤ 1000 := hbs
  clear hm hm' hf hbs
  go_enter Tryz.func48, Tryz.ntmps48
  go_wp2_with fail
  have wb : Whole (w.alloc (.cells #[.int .i64 (kn : Int), .int .u32 (t : Int), .int .u64 (e : Int), .int .u64 (o : Int), .int .u64 (s : Int), .string b] 40)) w.heap.size 40 [.int .i64 (kn : Int), .int .u32 (t : Int), .int .u64 (e : Int), .int .u64 (o : Int), .int .u64 (s : Int), .string b] := Whole.new_ rfl rfl
  have bb : Below w.heap.size w (w.alloc (.cells #[.int .i64 (kn : Int), .int .u32 (t : Int), .int .u64 (e : Int), .int .u64 (o : Int), .int .u64 (s : Int), .string b] 40)) := (Below.refl _ _).alloc (Nat.le_refl _) _
  refine (C.out _).mono ?_
  rintro en w1 ⟨rfl, bw⟩
  rw [HM.out]
  have W1 := Lib.hid (wb.kept bw)
  have B1 := Lib.hid (bb.trans (bw.mono bb.size))
  clear bw wb bb C
  obtain ⟨g, hg⟩ : ∃ g, w.heap.size = g := ⟨_, rfl⟩
  rw [hg] at W1 ⊢
  have HG := Lib.hid hg
  clear hg
  have ck : w1.cell? ⟨g, 0, none⟩ = some (.int .i64 (kn : Int)) := W1.out.at_ 0
  have ck1 : (w1.alloc (.cells #[.int .u8 83, .int .u8 82, .int .u8 (kn : Int)] 5)).cell? ⟨g, 1, none⟩ = some (.int .u32 (t : Int)) := (W1.out.more _).at_ 1
  have g3 := grow_three w1 w1 (kn : Int) (Below.refl _ _)
  have G3 := Lib.hid g3
  clear g3
  go_wp2_with fail
  obtain ⟨w3, hw3⟩ : ∃ w3, w1.alloc (.cells #[.int .u8 83, .int .u8 82, .int .u8 (kn : Int)] 5) = w3 := ⟨_, rfl⟩
  obtain ⟨v3, hv3⟩ : ∃ v3, Value.slice (some ⟨w1.heap.size, 0, none⟩) 3 3 = v3 := ⟨_, rfl⟩
  obtain ⟨l3, e3⟩ : ∃ l, ([83, 82, (kn : Int)] : List Int) = l := ⟨_, rfl⟩
  have hl3 : l3.length = 3 := by rw [← e3]; rfl
  have by3 : Byte l3 := by
    rw [← e3]
    intro c hc
    simp at hc
    omega
  rw [hw3, hv3, e3] at G3
  rw [hw3, hv3]
  have E3 := Lib.hid e3
  have HL3 := Lib.hid hl3
  have BY3 := Lib.hid by3
  clear e3 hl3 by3 ck ck1 hw3 hv3
  
  refine (rput_any t 4 (by decide) w3).mono ?_
  rintro en wm hm
  obtain ⟨a4, c4, v4, w4, rfl, r4, g4⟩ := G3.out.put 4 (be_length _ _) hm (by rw [HL3.out]; decide)
  obtain ⟨l4, e4⟩ : ∃ l, l3 ++ be t 4 = l := ⟨_, rfl⟩
  have hl4 : l4.length = 7 := by rw [← e4, List.length_append, HL3.out, be_length]
  rw [e4] at g4
  have R4 := Lib.hid r4
  have G4 := Lib.hid g4
  have E4 := Lib.hid e4
  have HL4 := Lib.hid hl4
  have by4 : Byte l4 := by rw [← e4]; exact BY3.out.append (be_Byte _ _)
  have BY4 := Lib.hid by4
  clear by4 hm r4 g4 e4 hl4
  go_wp2_with ((with_reducible show wpList _ _ _ _ _ _); refine wpList_append_run 57 (.tmp 12) (.tmp 16) _ _ rfl rfl rfl rfl rfl R4.out ?_; have ck : w4.cell? ⟨g, 2, none⟩ = some (.int .u64 (e : Int)) := (W1.out.kept G4.out.below).at_ 2)
  clear ck htn
  refine (rput_any e 8 (by decide) w4).mono ?_
  rintro en wm hm
  obtain ⟨a5, c5, v5, w5, rfl, r5, g5⟩ := G4.out.put 8 (be_length _ _) hm (by rw [HL4.out]; decide)
  obtain ⟨l5, e5⟩ : ∃ l, l4 ++ be e 8 = l := ⟨_, rfl⟩
  have hl5 : l5.length = 15 := by rw [← e5, List.length_append, HL4.out, be_length]
  rw [e5] at g5
  have R5 := Lib.hid r5
  have G5 := Lib.hid g5
  have E5 := Lib.hid e5
  have HL5 := Lib.hid hl5
  have by5 : Byte l5 := by rw [← e5]; exact BY4.out.append (be_Byte _ _)
  have BY5 := Lib.hid by5
  clear by5 hm r5 g5 e5 hl5
  go_wp2_with ((with_reducible show wpList _ _ _ _ _ _); refine wpList_append_run 57 (.tmp 18) (.tmp 21) _ _ rfl rfl rfl rfl rfl R5.out ?_; have ck : w5.cell? ⟨g, 3, none⟩ = some (.int .u64 (o : Int)) := (W1.out.kept G5.out.below).at_ 3)
  clear ck
  refine (rput_any o 8 (by decide) w5).mono ?_
  rintro en wm hm
  obtain ⟨a6, c6, v6, w6, rfl, r6, g6⟩ := G5.out.put 8 (be_length _ _) hm (by rw [HL5.out]; decide)
  obtain ⟨l6, e6⟩ : ∃ l, l5 ++ be o 8 = l := ⟨_, rfl⟩
  have hl6 : l6.length = 23 := by rw [← e6, List.length_append, HL5.out, be_length]
  rw [e6] at g6
  have R6 := Lib.hid r6
  have G6 := Lib.hid g6
  have E6 := Lib.hid e6
  have HL6 := Lib.hid hl6
  have by6 : Byte l6 := by rw [← e6]; exact BY5.out.append (be_Byte _ _)
  have BY6 := Lib.hid by6
  clear by6 hm r6 g6 e6 hl6
  go_wp2_with ((with_reducible show wpList _ _ _ _ _ _); refine wpList_append_run 57 (.tmp 23) (.tmp 26) _ _ rfl rfl rfl rfl rfl R6.out ?_; have ck : w6.cell? ⟨g, 4, none⟩ = some (.int .u64 (s : Int)) := (W1.out.kept G6.out.below).at_ 4)
  clear ck
  refine (rput_any s 8 (by decide) w6).mono ?_
  rintro en wm hm
  obtain ⟨a7, c7, v7, w7, rfl, r7, g7⟩ := G6.out.put 8 (be_length _ _) hm (by rw [HL6.out]; decide)
  obtain ⟨l7, e7⟩ : ∃ l, l6 ++ be s 8 = l := ⟨_, rfl⟩
  have hl7 : l7.length = 31 := by rw [← e7, List.length_append, HL6.out, be_length]
  rw [e7] at g7
  have R7 := Lib.hid r7
  have G7 := Lib.hid g7
  have E7 := Lib.hid e7
  have HL7 := Lib.hid hl7
  have by7 : Byte l7 := by rw [← e7]; exact BY6.out.append (be_Byte _ _)
  have BY7 := Lib.hid by7
  clear by7 hm r7 g7 e7 hl7
  go_wp2_with ((with_reducible show wpList _ _ _ _ _ _); refine wpList_append_run 57 (.tmp 28) (.tmp 31) _ _ rfl rfl rfl rfl rfl R7.out ?_; have ck : w7.cell? ⟨g, 5, none⟩ = some (.string b) := (W1.out.kept G7.out.below).at_ 5)
  clear ck
  refine (rput_any b.size 4 (by decide) w7).mono ?_
  rintro en wm hm
  obtain ⟨a8, c8, v8, w8, rfl, r8, g8⟩ := G7.out.put 4 (be_length _ _) hm (by rw [HL7.out]; decide)
  obtain ⟨l8, e8⟩ : ∃ l, l7 ++ be b.size 4 = l := ⟨_, rfl⟩
  have hl8 : l8.length = 35 := by rw [← e8, List.length_append, HL7.out, be_length]
  rw [e8] at g8
  have R8 := Lib.hid r8
  have G8 := Lib.hid g8
  have E8 := Lib.hid e8
  have HL8 := Lib.hid hl8
  have by8 : Byte l8 := by rw [← e8]; exact BY7.out.append (be_Byte _ _)
  have BY8 := Lib.hid by8
  clear by8 hm r8 g8 e8 hl8
  obtain ⟨av, cv, ev, -, -, hn9, lv9, -⟩ := G8.out.own.form
  rw [HL8.out] at ev hn9
  subst ev
  go_wp2_with ((with_reducible show wpList _ _ _ _ _ _); refine wpList_append_run 57 (.tmp 33) (.tmp 38) _ _ rfl rfl rfl rfl rfl R8.out ?_)
  -- the text of the sum: two appends in a region that draws
  have W8 := W1.out.kept G8.out.below
  have hd8 : Below w8.heap.size w8 w8.drew := below_draws (Below.refl _ _) 1
  have gn : Grow w8.drew [] (.slice none 0 0) w8.drew := ⟨Own.none_ _, (fun g hg => by cases hg), Below.refl _ _⟩
  obtain ⟨v20, w20, r20, g20⟩ := gn.row av 35 cv (lv9.later hd8) HL8.out (fun e => (hn9 e).2) (by decide)
  have b20 : Below w8.heap.size w8 w20 := hd8.trans (g20.below.mono hd8.size)
  obtain ⟨v21, w21, r21, g21⟩ := g20.text b (by rw [List.nil_append, HL8.out]; omega)
  have b21 : Below w8.heap.size w8 w21 := hd8.trans (g21.below.mono hd8.size)
  have hlen21 : ([] ++ l8 ++ bs b).length = 35 + b.size := by rw [List.nil_append, List.length_append, HL8.out, bs_length]
  obtain ⟨a21, c21, e21, -, -, -, l21, -⟩ := g21.own.form
  rw [hlen21] at e21
  subst e21
  have q0 : w8.drew.cell? ⟨g, 5, none⟩ = some (.string b) := (W8.kept hd8).at_ 5
  have q1 : w20.cell? ⟨g, 5, none⟩ = some (.string b) := (W8.kept b20).at_ 5
  have q2 : w21.cell? ⟨g, 5, none⟩ = some (.string b) := (W8.kept b21).at_ 5
  have G21 := Lib.hid (G8.out.later b21)
  have cs := crc.ref_at a21 ([] ++ l8 ++ bs b) (35 + b.size) c21 w21 hlen21 (by omega) l21 ((Byte.nil.append BY8.out).append (bs_byte b))
  rw [List.nil_append] at cs
  obtain ⟨sm, hsm⟩ : ∃ sm, sumOf (l8 ++ bs b) = sm := ⟨_, rfl⟩
  have hsm1 : (sm : Int) < 4294967296 := by rw [← hsm]; have := sumOf_lt (l8 ++ bs b); omega
  have cs' : Calls Tryz.prog 81 #[.slice a21 (35 + b.size) c21] w21 fun e w' => e = .returned (.int .u32 (sm : Int)) ∧ w21 = w' := by rw [← hsm]; exact cs
  have CS := Lib.hid cs'
  have HSM := Lib.hid hsm
  have HSM1 := Lib.hid hsm1
  clear hsm1 cs cs' hsm W8 hd8 gn g20 b20 g21 b21 hlen21 l21 lv9 hn9
  clear hb1 hk1 hk2
  have R20 := Lib.hid r20
  have R21 := Lib.hid r21
  clear r20 r21
  go_region_law (first
    | (refine step_append_run 57 (.const (.slice none 0 0)) (.tmp 40) _ _ rfl rfl rfl rfl rfl (by exact R20.out) ?_)
    | (refine step_append_run 9 (.tmp 41) (.tmp 43) _ _ rfl rfl rfl rfl rfl (by exact R21.out) ?_)
    | (rw [if_pos (by rfl)]; go_simp; refine CS.out.mono ?_; rintro en w' ⟨rfl, rfl⟩))
  all_goals
    have hsm1 := HSM1.out
    go_wp2_with fail
    clear hsm1
    refine (rput_any sm 4 (by decide) w21).mono ?_
    rintro en wm hm
    obtain ⟨a11, c11, v11, w11, rfl, r11, g11⟩ := G21.out.put 4 (be_length _ _) hm (by rw [HL8.out]; decide)
    have hl11 : (l8 ++ be sm 4).length = 39 := by rw [List.length_append, HL8.out, be_length]
    obtain ⟨v12, w12, r12, g12⟩ := g11.text b (by rw [hl11]; omega)
    have R11 := Lib.hid r11
    have R12 := Lib.hid r12
    have ck : w11.cell? ⟨g, 5, none⟩ = some (.string b) := (W1.out.kept g11.below).at_ 5
    have hB : Below w.heap.size w w12 := B1.out.trans (g12.below.mono (by have := B1.out.size; omega))
    have e35 : l8 = numL ⟨(kn : Int), t, e, o, s, b⟩ := by
      have hkn : kn % 256 = kn := by
        have h := HM.out
        unfold mayB numB isKindB at h
        simp only [Bool.and_eq_true, decide_eq_true_eq] at h
        omega
      rw [← E8.out, ← E7.out, ← E6.out, ← E5.out, ← E4.out, ← E3.out]
      simp only [numL, be, Int.toNat_natCast, List.nil_append, List.cons_append, hkn]
    have fin : Made w (encL ⟨(kn : Int), t, e, o, s, b⟩) (.returned v12) w12 := by
      refine ⟨_, rfl, ?_, fun g hg => Nat.le_trans B1.out.size (g12.new_ g hg), hB⟩
      have := g12.own
      rw [← HSM.out, e35] at this
      exact this
    have F := Lib.hid fin
    clear hm r11 g11 r12 g12 hB fin hl11 e35
    go_wp2_with (first
      | ((with_reducible show wpList _ _ _ (⟨some 50, _, _, _, _, _⟩ :: _) _ _); refine wpList_append_run 57 (.tmp 46) (.tmp 49) _ _ rfl rfl rfl rfl rfl R11.out ?_)
      | ((with_reducible show wpList _ _ _ (⟨some 54, _, _, _, _, _⟩ :: _) _ _); refine wpList_append_run 9 (.tmp 51) (.tmp 53) _ _ rfl rfl rfl rfl rfl R12.out ?_))
    go_ret
    exact F.out

theorem REncode_any (r : Rec) (w : World) (hf : r.Fit) : Calls Tryz.prog 48 #[r.val] w (Made w (enc r)) := by
  unfold enc
  cases hm : mayB r
  · exact renc_no r w hf hm
  · exact renc_yes r w hf hm
end Go.Proofs.YtdonblfidohncaaGreatDoor.recd
/-
  PLAIN MATHEMATICS OF A SPOILT RECORD (P6.1): a record of which one byte was changed, but for its length, is none. No program stands in it.
-/

namespace Go.Proofs.YtdonblfidohncaaGreatDoor.recd
open Go.RowKit Go.Proofs.YtdonblfidohncaaGreatDoor.num Go.Proofs.YtdonblfidohncaaGreatDoor.disk
set_option linter.unusedVariables false

theorem step_inj {s t : BitVec 32} {c : Int} (h : crc.step s c = crc.step t c) : s = t := by
  unfold crc.step at h
  have h := crc.bits8_inj h
  have h2 := congrArg (· ^^^ BitVec.ofInt 32 c) h
  rwa [BitVec.xor_assoc, BitVec.xor_self, BitVec.xor_zero, BitVec.xor_assoc, BitVec.xor_self, BitVec.xor_zero] at h2
theorem run_inj : ∀ (b : List Int) {s t : BitVec 32}, crc.run s b = crc.run t b → s = t
  | [], _, _, h => h
  | _ :: b, _, _, h => step_inj (run_inj b h)
theorem step_byte {s : BitVec 32} {c d : Int} (hc : 0 ≤ c ∧ c < 256) (hd : 0 ≤ d ∧ d < 256) (h : crc.step s c = crc.step s d) : c = d := by
  unfold crc.step at h
  have h := crc.bits8_inj h
  have h2 := congrArg (s ^^^ ·) h
  rw [← BitVec.xor_assoc, ← BitVec.xor_assoc, BitVec.xor_self, BitVec.zero_xor, BitVec.zero_xor] at h2
  rw [← crc.toNat_byte hc, ← crc.toNat_byte hd, h2]
/-- A byte that is changed changes the sum. -/
theorem sum_set (l : List Int) (j : Nat) (hj : j < l.length) (y : Int) (hl : Byte l) (hy : 0 ≤ y ∧ y < 256) (hne : y ≠ l.getD j 0) : sumOf (l.set j y) ≠ sumOf l := by
  intro h
  unfold sumOf at h
  have h := BitVec.eq_of_toNat_eq h
  have e1 : l = l.take j ++ l.getD j 0 :: l.drop (j + 1) := by
    rw [List.getD_eq_getElem?_getD, List.getElem?_eq_getElem hj, Option.getD_some, ← List.drop_eq_getElem_cons hj, List.take_append_drop]
  have e2 : l.set j y = l.take j ++ y :: l.drop (j + 1) := by
    rw [List.set_eq_take_append_cons_drop, if_pos hj]
  have hb := hl.at hj
  rw [e2] at h
  conv at h => rhs; rw [e1]
  unfold crc.sum crc.more at h
  have h : crc.run (~~~ 0#32) (l.take j ++ y :: l.drop (j + 1)) = crc.run (~~~ 0#32) (l.take j ++ l.getD j 0 :: l.drop (j + 1)) := by
    have := congrArg (~~~ ·) h
    simpa using this
  unfold crc.run at h
  rw [List.foldl_append, List.foldl_append, List.foldl_cons, List.foldl_cons] at h
  exact hne (step_byte hy hb (run_inj _ h))
theorem val_inj {a b : List Int} (hl : a.length = b.length) (ha : Byte a) (hb : Byte b) (h : val a = val b) : a = b := by
  rw [← be_val a.length a rfl ha, h, hl, be_val b.length b rfl hb]
theorem sub_set_out (l : List Int) (k : Nat) (y : Int) (p q : Nat) (h : k < p ∨ q ≤ k) : sub (l.set k y) p q = sub l p q := by
  unfold sub
  rcases h with h | h
  · rw [List.drop_set, if_pos h]
  · by_cases hp : k < p
    · rw [List.drop_set, if_pos hp]
    · rw [List.drop_set, if_neg hp, List.take_set_of_le (by omega)]
theorem sub_set_in (l : List Int) (k : Nat) (y : Int) (p q : Nat) (h1 : p ≤ k) (h2 : k < q) : sub (l.set k y) p q = (sub l p q).set (k - p) y := by
  unfold sub
  rw [List.drop_set, if_neg (by omega), List.take_set]
theorem sub_getD (l : List Int) (p q k : Nat) (h1 : p ≤ k) (h2 : k < q) : (sub l p q).getD (k - p) 0 = l.getD k 0 := by
  unfold sub
  rw [List.getD_eq_getElem?_getD, List.getElem?_take_of_lt (by omega), List.getElem?_drop, show p + (k - p) = k by omega, ← List.getD_eq_getElem?_getD]
theorem set_ne {l : List Int} {j : Nat} {y : Int} (hj : j < l.length) (hne : y ≠ l.getD j 0) : l.set j y ≠ l := by
  intro e
  have := congrArg (fun l => List.getD l j 0) e
  simp only [List.getD_eq_getElem?_getD, List.getElem?_set_self hj, Option.getD_some] at this
  rw [← List.getD_eq_getElem?_getD] at this
  exact hne this
/-- SPOILT: it is none. -/
theorem dec_spoilt (r : Rec) (h : mayB r = true) (ht : r.tenant < 4294967296) (k : Nat) (hk : k < (encL r).length) (hno : ¬ (31 ≤ k ∧ k < 35)) (y : Int) (hy : 0 ≤ y ∧ y < 256) (hne : y ≠ (encL r).getD k 0) : dec ((encL r).set k y) = (zeroRec, 0, 4) := by
  have hl := encL_length r
  have hB := encL_byte r
  have hlen : ((encL r).set k y).length = 39 + r.body.size := by rw [List.length_set, hl]
  obtain ⟨_, _, _, _, h4⟩ := May.of h
  have hs : sumOf (numL r ++ bs r.body) < 256 ^ 4 := by rw [show (256 : Nat) ^ 4 = 4294967296 by decide]; exact (crc.sum _).isLt
  cases hbeg : begB ((encL r).set k y)
  · unfold dec; rw [if_pos hbeg]
  · -- the two letters are whole
    have hk2 : 2 ≤ k := by
      refine Nat.le_of_not_lt fun hlt => ?_
      obtain ⟨c, rest, e, _⟩ := enc_front r h
      unfold begB at hbeg
      rw [hlen, show min (39 + r.body.size) 2 = 2 by omega] at hbeg
      simp only [Bool.and_eq_true, decide_eq_true_eq] at hbeg
      have h1 := hbeg.1
      rw [e] at h1 hne
      match k, hlt with
      | 0, _ => simp at h1 hne; exact hne h1
      | 1, _ => simp at h1 hne; exact hne h1
    have hlo : lenOf ((encL r).set k y) = r.body.size := by
      unfold lenOf
      rw [sub_set_out _ _ _ _ _ (by omega)]
      exact len_enc r h
    unfold dec
    rw [if_neg (by rw [hbeg]; simp), if_neg (by omega), hlo]
    cases hnum : numB (headOf ((encL r).set k y))
    · rw [if_pos (.inl rfl)]
    · rw [if_neg (by simp; omega), if_neg (by omega), if_pos]
      by_cases h35 : 35 ≤ k ∧ k < 39
      · rw [sub_set_out _ _ _ 0 35 (by omega), sub_set_out _ _ _ 39 _ (by omega), enc_nums, enc_body, sub_set_in _ _ _ 35 39 h35.1 h35.2]
        intro e
        have hv : val (sub (encL r) 35 39) = sumOf (numL r ++ bs r.body) := by rw [enc_sum, val_be 4 _ hs]
        rw [← hv] at e
        have hlx : (sub (encL r) 35 39).length = 4 := sub_length _ 35 39 (by omega)
        have := val_inj (by rw [List.length_set]) (sub_byte hB 35 39) (fun c hc => by
          rcases List.mem_or_eq_of_mem_set hc with hc | rfl
          · exact sub_byte hB 35 39 c hc
          · exact hy) e
        exact set_ne (by rw [hlx]; omega) (by rw [sub_getD _ 35 39 k h35.1 h35.2]; exact hne) this.symm
      · rw [sub_set_out _ _ _ 35 39 (by omega), enc_sum, val_be 4 _ hs]
        by_cases hlow : k < 35
        · rw [sub_set_out _ _ _ 39 _ (by omega), enc_body, sub_set_in _ _ _ 0 35 (by omega) hlow, enc_nums, Nat.sub_zero]
          have e : (numL r).set k y ++ bs r.body = (numL r ++ bs r.body).set k y := by rw [List.set_append_left _ _ (by rw [numL_length]; exact hlow)]
          rw [e]
          refine sum_set _ _ (by rw [List.length_append, numL_length]; omega) _ ((numL_byte r).append (bs_byte _)) hy ?_
          have hg := sub_getD (encL r) 0 35 k (by omega) hlow
          rw [enc_nums, Nat.sub_zero] at hg
          rw [List.getD_eq_getElem?_getD, List.getElem?_append_left (by rw [numL_length]; exact hlow), ← List.getD_eq_getElem?_getD, hg]
          exact hne
        · rw [sub_set_out _ _ _ 0 35 (by omega), enc_nums, sub_set_in _ _ _ 39 _ (by omega) (by omega), enc_body]
          have e : numL r ++ (bs r.body).set (k - 39) y = (numL r ++ bs r.body).set (k - 4) y := by
            rw [List.set_append_right _ _ (by rw [numL_length]; omega), numL_length, show k - 4 - 35 = k - 39 by omega]
          rw [e]
          refine sum_set _ _ (by rw [List.length_append, numL_length, bs_length]; omega) _ ((numL_byte r).append (bs_byte _)) hy ?_
          have hg := sub_getD (encL r) 39 (39 + r.body.size) k (by omega) (by omega)
          rw [enc_body] at hg
          rw [List.getD_eq_getElem?_getD, List.getElem?_append_right (by rw [numL_length]; omega), numL_length, show k - 4 - 35 = k - 39 by omega, ← List.getD_eq_getElem?_getD, hg]
          exact hne
end Go.Proofs.YtdonblfidohncaaGreatDoor.recd
/-
  PLAIN MATHEMATICS OF THE REFERENCE's Decode (P6.1): a record written again is what was read just if its sum is right. No program stands in it.
-/

namespace Go.Proofs.YtdonblfidohncaaGreatDoor.recd
open Go.RowKit Go.Proofs.YtdonblfidohncaaGreatDoor.num Go.Proofs.YtdonblfidohncaaGreatDoor.disk
set_option linter.unusedVariables false

theorem sub_join (l : List Int) (p q r : Nat) (h1 : p ≤ q) (h2 : q ≤ r) : sub l p q ++ sub l q r = sub l p r := by
  unfold sub
  have e : l.drop q = (l.drop p).drop (q - p) := by rw [List.drop_drop, show p + (q - p) = q by omega]
  rw [e, show r - p = (q - p) + (r - q) by omega, List.take_add]
theorem sub_zero (l : List Int) (q : Nat) : sub l 0 q = l.take q := by unfold sub; rw [List.drop_zero, Nat.sub_zero]
/-- The record that bytes tell of, whole. -/
def full (l : List Int) : Rec := { headOf l with body := str (sub l 39 (39 + lenOf l)) }
section
variable {l : List Int}
theorem be_sub (hb : Byte l) (p q : Nat) (h : p ≤ q) (hq : q ≤ l.length) : be (val (sub l p q)) (q - p) = sub l p q := be_val (q - p) _ (sub_length l p q hq) (sub_byte hb p q)
theorem full_size (hn : 39 + lenOf l ≤ l.length) : (full l).body.size = lenOf l := by
  show (str (sub l 39 (39 + lenOf l))).size = lenOf l
  rw [str_size, sub_length l 39 (39 + lenOf l) hn]; omega
theorem full_may (h3 : numB (headOf l) = true) (h4 : lenOf l ≤ 1000) (hn : 39 + lenOf l ≤ l.length) : mayB (full l) = true := by
  unfold mayB
  rw [show numB (full l) = true from h3, full_size hn]
  simpa using h4
theorem full_nums (hb : Byte l) (h1 : begB l = true) (hn : 39 + lenOf l ≤ l.length) : numL (full l) = sub l 0 35 := by
  unfold numL
  rw [full_size hn]
  have e0 : ([83, 82] : List Int) = sub l 0 2 := by
    unfold begB at h1
    simp only [Bool.and_eq_true, decide_eq_true_eq] at h1
    have h := h1.1
    rw [Nat.min_eq_right (by omega)] at h
    rw [sub_zero, h]; rfl
  have e1 : be (full l).kind.toNat 1 = sub l 2 3 := by
    have := be_sub hb 2 3 (by omega) (by omega)
    show be ((val (sub l 2 3) : Nat) : Int).toNat 1 = _
    rw [Int.toNat_natCast]; exact this
  have e2 : be (full l).tenant 4 = sub l 3 7 := be_sub hb 3 7 (by omega) (by omega)
  have e3 : be (full l).epoch 8 = sub l 7 15 := be_sub hb 7 15 (by omega) (by omega)
  have e4 : be (full l).object 8 = sub l 15 23 := be_sub hb 15 23 (by omega) (by omega)
  have e5 : be (full l).seq 8 = sub l 23 31 := be_sub hb 23 31 (by omega) (by omega)
  have e6 : be (lenOf l) 4 = sub l 31 35 := be_sub hb 31 35 (by omega) (by omega)
  rw [e0, e1, e2, e3, e4, e5, e6, sub_join l 0 2 3 (by omega) (by omega), sub_join l 0 3 7 (by omega) (by omega), sub_join l 0 7 15 (by omega) (by omega), sub_join l 0 15 23 (by omega) (by omega), sub_join l 0 23 31 (by omega) (by omega), sub_join l 0 31 35 (by omega) (by omega)]
theorem full_enc (hb : Byte l) (h1 : begB l = true) (hn : 39 + lenOf l ≤ l.length) : encL (full l) = l.take (39 + lenOf l) ↔ sumOf (sub l 0 35 ++ sub l 39 (39 + lenOf l)) = val (sub l 35 39) := by
  have e : encL (full l) = sub l 0 35 ++ be (sumOf (sub l 0 35 ++ sub l 39 (39 + lenOf l))) 4 ++ sub l 39 (39 + lenOf l) := by
    unfold encL
    rw [full_nums hb h1 hn, show bs (full l).body = sub l 39 (39 + lenOf l) from bs_str (sub_byte hb _ _)]
  have e2 : l.take (39 + lenOf l) = sub l 0 35 ++ sub l 35 39 ++ sub l 39 (39 + lenOf l) := by
    rw [sub_join l 0 35 39 (by omega) (by omega), sub_join l 0 39 _ (by omega) (by omega), sub_zero]
  rw [e, e2]
  constructor
  · intro h
    have h := List.append_cancel_right h
    have h := List.append_cancel_left h
    rw [← h, val_be 4 _ (by rw [show (256 : Nat) ^ 4 = 4294967296 by decide]; exact (crc.sum _).isLt)]
  · intro h
    have h5 : be (val (sub l 35 39)) 4 = sub l 35 39 := be_sub hb 35 39 (by omega) (by omega)
    rw [h, h5]
end
end Go.Proofs.YtdonblfidohncaaGreatDoor.recd
