/-
  CONTRACT of stillroomlaw6.tells: both Decodes tell the same.
-/
import Derived.Test.YtlpennnnkbnjmaaDoorRcRAll
import Derived.Test.YtlpennnnkbnjmaaDoorRcBytes
namespace Go.Proofs.YtlpennnnkbnjmaaDoor.recd
open Go.RowKit Go.Proofs.YtlpennnnkbnjmaaDoor.num Go.Proofs.YtlpennnnkbnjmaaDoor.disk
set_option linter.unusedVariables false

theorem dec_body (l : List Int) : (dec l).1.body.size ≤ maxLen := by
  unfold dec
  split
  · exact Nat.zero_le _
  · split
    · exact Nat.zero_le _
    · split
      · exact Nat.zero_le _
      · split
        · exact Nat.zero_le _
        · split
          · exact Nat.zero_le _
          · show (str (sub l 39 (39 + lenOf l))).size ≤ _
            have h := List.length_take_le (39 + lenOf l - 39) (l.drop 39)
            rw [str_size]
            unfold sub maxLen
            omega

theorem whole6 {W : World} {p : Nat} {v0 v1 v2 v3 v4 v5 : Value} (h : Whole W p 25 [v0, v1, v2, v3, v4, v5]) :
    W.cell? ⟨p, 0, none⟩ = some v0 ∧ W.cell? ⟨p, 1, none⟩ = some v1 ∧ W.cell? ⟨p, 2, none⟩ = some v2 ∧ W.cell? ⟨p, 3, none⟩ = some v3 ∧ W.cell? ⟨p, 4, none⟩ = some v4 ∧ W.cell? ⟨p, 5, none⟩ = some v5 :=
  ⟨h.at_ 0, h.at_ 1, h.at_ 2, h.at_ 3, h.at_ 4, h.at_ 5⟩
set_option maxRecDepth 100000 in
set_option maxHeartbeats 2000000 in
theorem tells_any (a : Option Addr) (n cap : Nat) (l : List Int) (w : World) (hT : crc.Tab w) (hl : Leads w a l) (hb : Byte l) (hn : l.length = n) (hc : n ≤ cap) (hm : n ≤ 1000000000) :
    Calls Tryd.prog 17 #[.slice a n cap] w fun e w' => e = .returned (.bool true) ∧ Below w.heap.size w w' := by
  have hx := dec_body l
  have C1 := Decode_any a n cap l w hT hl hb hn hc hm
  have C2 := fun W hW => RDecode_any a n cap l W hW hb hn hc hm
  obtain ⟨⟨⟨k, t, e, o, s, b⟩, m, f⟩, hd⟩ : ∃ x, dec l = x := ⟨_, rfl⟩
  rw [hd] at C1 C2 hx
  have CQ := fun W => eq_same ⟨k, t, e, o, s, b⟩ W hx
  unfold DecOut decV Rec.val at C1 C2
  unfold Rec.val at CQ
  simp only at C1 C2 CQ
  have HC1 := Lib.hid C1
  have HC2 := Lib.hid C2
  have HCQ := Lib.hid CQ
  have HL := Lib.hid hl
  clear C1 C2 CQ hl hx hd hb hn hT hc hm
  go_enter Tryd.func17, Tryd.ntmps17
  go_wp2_with fail
  refine HC1.out.mono ?_
  rintro en w1 ⟨rfl, b1⟩
  have B2 := Lib.hid (b1.alloc b1.size (.cells #[.int .i64 k, .int .u32 (t : Int), .int .u64 (e : Int), .int .u64 (o : Int), .int .u64 (s : Int), .string b] 25))
  obtain ⟨p, hp⟩ : ∃ p, w1.heap.size = p := ⟨_, rfl⟩
  have W2 : Hid (Whole (w1.alloc (.cells #[.int .i64 k, .int .u32 (t : Int), .int .u64 (e : Int), .int .u64 (o : Int), .int .u64 (s : Int), .string b] 25)) p 25 [.int .i64 k, .int .u32 (t : Int), .int .u64 (e : Int), .int .u64 (o : Int), .int .u64 (s : Int), .string b]) := Whole.new_ hp.symm rfl
  clear b1
  go_wp2_with fail
  refine (HC2.out _ (HL.out.later B2.out)).mono ?_
  rintro en w3 ⟨rfl, b3⟩
  (try rw [hp])
  clear hp
  have B3 := B2.out.trans (b3.mono B2.out.size)
  have A3 := W2.out.kept b3
  obtain ⟨q, hq⟩ : ∃ q, w3.heap.size = q := ⟨_, rfl⟩
  have D4 : Whole (w3.alloc (.cells #[.int .i64 k, .int .u32 (t : Int), .int .u64 (e : Int), .int .u64 (o : Int), .int .u64 (s : Int), .string b] 25)) q 25 [.int .i64 k, .int .u32 (t : Int), .int .u64 (e : Int), .int .u64 (o : Int), .int .u64 (s : Int), .string b] := Whole.new_ hq.symm rfl
  have b34 : Below w3.heap.size w3 (w3.alloc (.cells #[.int .i64 k, .int .u32 (t : Int), .int .u64 (e : Int), .int .u64 (o : Int), .int .u64 (s : Int), .string b] 25)) := (Below.refl _ _).alloc (Nat.le_refl _) _
  have A4 := A3.kept b34
  have B4 := Lib.hid (B3.trans (b34.mono B3.size))
  clear b3 B3 A3 b34 W2 B2
  have a0 := whole6 A4
  have d0 := whole6 D4
  clear A4 D4
  go_wp2_with fail
  refine (HCQ.out _).mono ?_
  rintro en w5 ⟨rfl, b5⟩
  have B5 := Lib.hid (B4.out.trans (b5.mono B4.out.size))
  clear b5
  go_wp2_with fail
  go_ret
  exact ⟨rfl, B5.out⟩
end Go.Proofs.YtlpennnnkbnjmaaDoor.recd
