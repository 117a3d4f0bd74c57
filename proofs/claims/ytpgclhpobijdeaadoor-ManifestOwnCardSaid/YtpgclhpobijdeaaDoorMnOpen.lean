/-
  CONTRACTS of manifest.Create (on a new disk, and where the file is there) and manifest.Open; of stillroomlaw10.one.
-/
import Derived.Test.YtpgclhpobijdeaaDoorMnSave
import Derived.Test.YtpgclhpobijdeaaDoorSlBeg
namespace Go.Proofs.YtpgclhpobijdeaaDoor.man
open Go.RowKit Go.Proofs.YtpgclhpobijdeaaDoor.disk Go.Proofs.YtpgclhpobijdeaaDoor.recd Go.Proofs.YtpgclhpobijdeaaDoor.num Go.Proofs.YtpgclhpobijdeaaDoor.scan Go.Proofs.YtpgclhpobijdeaaDoor.slots
set_option linter.unusedVariables false

theorem enc_nil_len : (enc []).length = 10 := rfl
/-- A new manifest: on a new disk that is not told to fail. -/
def CreateOut (W : World) (E : Nat → Prop) (w : World) (p : Nat) (e : Ending) (w' : World) : Prop :=
  Kept E w w' ∧ ∃ m s tv b S' A, e = .returned (.tuple #[.pointer (some ⟨m, 0, none⟩), .int .i64 0]) ∧ MSlot W E w' m s p [] tv 1 0 1 S' 9 b A (-1) ∧ Strict A 0 1 ∧ A = ⟨A.now, A.now, []⟩
set_option maxRecDepth 100000 in
theorem manCreate_any {W : World} {E : Nat → Prop} (w : World) (p : Nat) (h : Held W E w p (slots.start (-1)) 0) (hT : crc.Tab W) : Calls Tryd.prog 9 #[.pointer (some ⟨p, 0, none⟩)] w (CreateOut W E w p) := by
  have hce := manEncode_any none 0 0 [] w (TRow.nil_ w)
  rw [show encO (tens []) = enc [] from rfl] at hce
  have CE := Lib.hid hce
  have HH := Lib.hid h
  clear h hce
  go_enter Tryd.func9, Tryd.ntmps9
  go_wp2_with fail
  refine CE.out.mono ?_
  rintro en w1 ⟨v1, rfl, o1, g1, b1⟩
  obtain ⟨a1, c1, rfl, _, _, hz1, l1, ha1⟩ := o1.form
  obtain ⟨ga, rfl, hgo, hgl⟩ : ∃ g, a1 = some ⟨g, 0, none⟩ ∧ (Value.slice a1 (enc []).length c1).ownBlock = some g ∧ g < w1.heap.size := by
    rcases ha1 with rfl | ha1
    · have := (hz1 rfl).1; rw [enc_nil_len] at this; omega
    · exact ha1
  have hg1 := g1 ga hgo
  have h1 := HH.out.mine b1
  have CM := (make_any w1 p (-1) h1 hT (some ⟨ga, 0, none⟩) 10 c1 (enc []) l1 (enc_byte _) enc_nil_len (by omega) (fun e => by cases e) (fun g off e _ => .inl (.inr (by injection e with e; injection e with e; subst e; exact ⟨hg1, hgl⟩)))).mono fun e w' => make_one (by rw [enc_nil_len]; omega) (enc_byte _)
  have C2 := Lib.hid CM
  have B1 := Lib.hid b1
  rw [enc_nil_len]
  clear CM h1 o1 g1 b1 l1 ha1 hz1 hgo hgl hg1 CE
  go_wp2_with fail
  refine C2.out.mono ?_
  rintro en w2 ⟨k2, s, tv, b, S', A, rfl, sl, st, hA⟩
  have hmb : w2.heap.size < (w2.alloc (.cells #[.pointer (some ⟨s, 0, none⟩)] 62)).heap.size := by simp
  have ba : Below w2.heap.size w2 (w2.alloc (.cells #[.pointer (some ⟨s, 0, none⟩)] 62)) := (Below.refl _ _).alloc (Nat.le_refl _) _
  have F : Hid (CreateOut W E w p (.returned (.tuple #[.pointer (some ⟨w2.heap.size, 0, none⟩), .int .i64 0])) (w2.alloc (.cells #[.pointer (some ⟨s, 0, none⟩)] 62))) := Lib.hid (by
    refine ⟨fun j hj => ((ba.block j ?_).trans (k2 j (.inl hj))).trans (B1.out.block j (HH.out.user j hj)), w2.heap.size, s, tv, b, S', A, rfl, ⟨Whole.new_ rfl rfl, (sl.mine ba).fewer fun j hj => ?_, by decide, (fun t ht => by cases ht), sl.held.below.size⟩, st, hA⟩
    · exact sl.held.user j (.inr (.inl hj))
    · rcases hj with hj | rfl
      · exact .inl (.inl hj)
      · exact .inr ⟨Nat.le_refl _, hmb⟩)
  clear k2 sl st hA C2 ba hmb
  go_wp2_with fail
  go_ret2
  exact F.out
theorem manCreate_exists {W : World} {E : Nat → Prop} (w : World) (p : Nat) (S : St) (n : Nat) (h : Held W E w p S n) (b : Nat) (hb : dlook aB.data.toList S.now = some b) :
    Calls Tryd.prog 9 #[.pointer (some ⟨p, 0, none⟩)] w fun e w' => e = .returned (.tuple #[.pointer none, .int .i64 7]) ∧ Below w.heap.size w w' := by
  have hce := manEncode_any none 0 0 [] w (TRow.nil_ w)
  rw [show encO (tens []) = enc [] from rfl] at hce
  have CE := Lib.hid hce
  have HH := Lib.hid h
  clear h hce
  go_enter Tryd.func9, Tryd.ntmps9
  go_wp2_with fail
  refine CE.out.mono ?_
  rintro en w1 ⟨v1, rfl, o1, g1, b1⟩
  obtain ⟨a1, c1, rfl, _, _, hz1, l1, ha1⟩ := o1.form
  have C2 := Lib.hid (create_exists w1 p S n (HH.out.later b1) aB aB_fit b hb a1 10 c1 (by omega))
  have B1 := Lib.hid b1
  rw [enc_nil_len]
  clear o1 g1 b1 l1 ha1 hz1 CE
  go_wp2_with fail
  refine C2.out.mono ?_
  rintro en w2 ⟨rfl, rfl⟩
  go_wp2_with fail
  go_ret2
  exact ⟨rfl, B1.out⟩
/-- Opened. -/
def OpenOut (W : World) (E : Nat → Prop) (w : World) (p : Nat) (L : List Ten) (k T n b : Nat) (A : FileA) (f : Int) (e : Ending) (w' : World) : Prop :=
  Kept E w w' ∧ ∃ m s tv S', e = .returned (.tuple #[.pointer (some ⟨m, 0, none⟩), .int .i64 0]) ∧ MSlot W E w' m s p L tv T k T S' (n + 1) b A f
set_option maxRecDepth 100000 in
theorem manOpen_any {W : World} {E : Nat → Prop} {w : World} {p n : Nat} {S : St} {b : Nat} {A : FileA} {f : Int} {k T : Nat} {L : List Ten} {tr : Nat} (h : Held W E w p S n) (hl : Lone S aN b A f) (hk : Keeps A.now k T (enc L) tr) (hlt : Strict A k T) (hT2 : T ≤ tr) (hn : n ≤ 10000000) (hT : crc.Tab W) (hm : mayB L = true) (hf : ∀ t ∈ L, t.Fit) :
    Calls Tryd.prog 21 #[.pointer (some ⟨p, 0, none⟩)] w (OpenOut W E w p L k T n b A f) := by
  have CO := Lib.hid (open_slot h hl hk hlt hT2 hn hT)
  have HM := Lib.hid hm
  have HF := Lib.hid hf
  clear h hl hk hlt hm hf
  go_enter Tryd.func21, Tryd.ntmps21
  go_wp2_with fail
  refine CO.out.mono ?_
  rintro en w1 ⟨s, tv, S', rfl, sl, k1⟩
  have CT := Lib.hid (text_any sl.at_)
  have SL := Lib.hid sl
  have K1 := Lib.hid k1
  clear sl k1 CO
  go_wp2_with fail
  refine CT.out.mono ?_
  rintro en w2 ⟨v, rfl, o2, _, b2⟩
  obtain ⟨a, cap, rfl, hb⟩ := bytes_own o2 (enc_byte L)
  have CD := Lib.hid (manDecode_any a _ cap (enc L) w2 hb)
  have B2 := Lib.hid b2
  obtain ⟨len, hlen⟩ : ∃ len, (enc L).length = len := ⟨_, rfl⟩
  rw [hlen] at CD ⊢
  clear o2 hb b2 CT hlen
  go_wp2_with fail
  refine CD.out.mono ?_
  rintro en w3 ⟨b3, ⟨hn, _⟩ | ⟨g, n3, xs, rfl, hs, ho, hg⟩⟩
  · rw [decT_enc HF.out HM.out] at hn; cases hn
  · have b13 : Below w1.heap.size w1 w3 := B2.out.trans (b3.mono B2.out.size)
    have sl3 := SL.out.later b13
    have hmb : w3.heap.size < (w3.alloc (.cells #[.pointer (some ⟨s, 0, none⟩)] 62)).heap.size := by simp
    have ba : Below w3.heap.size w3 (w3.alloc (.cells #[.pointer (some ⟨s, 0, none⟩)] 62)) := (Below.refl _ _).alloc (Nat.le_refl _) _
    have F : Hid (OpenOut W E w p L k T n b A f (.returned (.tuple #[.pointer (some ⟨w3.heap.size, 0, none⟩), .int .i64 0])) (w3.alloc (.cells #[.pointer (some ⟨s, 0, none⟩)] 62))) := Lib.hid (by
      refine ⟨fun j hj => ((ba.block j ?_).trans (b13.block j ?_)).trans (K1.out j hj), w3.heap.size, s, tv, S', rfl, ⟨Whole.new_ rfl rfl, (sl3.mine ba).fewer fun j hj => ?_, HM.out, HF.out, sl3.held.below.size⟩⟩
      · exact sl3.held.user j (.inr hj)
      · exact SL.out.held.user j (.inr hj)
      · rcases hj with hj | rfl
        · exact .inl hj
        · exact .inr ⟨Nat.le_refl _, hmb⟩)
    clear b3 hs ho hg CD sl3 ba hmb b13
    go_wp2_with fail
    go_ret2
    exact F.out
theorem manOpen_none {W : World} {E : Nat → Prop} (w : World) (p : Nat) (S : St) (n : Nat) (h : Held W E w p S n) (hb : dlook aB.data.toList S.now = none) :
    Calls Tryd.prog 21 #[.pointer (some ⟨p, 0, none⟩)] w fun e w' => e = .returned (.tuple #[.pointer none, .int .i64 1]) ∧ w = w' := by
  have C := Lib.hid (open_none w p S n h aB aB_fit hb)
  clear h
  go_enter Tryd.func21, Tryd.ntmps21
  go_wp2_with fail
  refine C.out.mono ?_
  rintro en w1 ⟨rfl, rfl⟩
  go_wp2_with fail
  go_ret2
  exact ⟨rfl, rfl⟩
theorem manOpen_short {W : World} {E : Nat → Prop} (w : World) (p : Nat) (S : St) (n : Nat) (h : Held W E w p S n) (b : Nat) (hb : dlook aB.data.toList S.now = some b) (hl : (S.file b).now.length ≠ 8192) :
    Calls Tryd.prog 21 #[.pointer (some ⟨p, 0, none⟩)] w fun e w' => e = .returned (.tuple #[.pointer none, .int .i64 4]) ∧ w = w' := by
  have C := Lib.hid (open_short w p S n h aB aB_fit b hb hl)
  clear h
  go_enter Tryd.func21, Tryd.ntmps21
  go_wp2_with fail
  refine C.out.mono ?_
  rintro en w1 ⟨rfl, rfl⟩
  go_wp2_with fail
  go_ret2
  exact ⟨rfl, rfl⟩
def oneT (id : Nat) : Ten := ⟨id, 1, 5000, 1, 3, [1, 2]⟩
theorem oneT_fit {id : Nat} (h : id < 4294967296) : (oneT id).Fit := ⟨h, by show 1 < _; omega, by show _ ≤ (5000 : Int) ∧ (5000 : Int) ≤ _; omega, by show 1 < _; omega, by show _ ≤ (3 : Int) ∧ (3 : Int) ≤ _; omega, fun s hs => by
  have : s ∈ [(1 : Int), 2] := hs
  simp at this
  omega⟩
def OneOut (w : World) (id : Nat) (e : Ending) (w' : World) : Prop := ∃ h, e = .returned (TS.val ⟨oneT id, some ⟨h, 0, none⟩, 2, 2⟩) ∧ SegsAt w' (some ⟨h, 0, none⟩) 2 2 [1, 2] ∧ w.heap.size ≤ h ∧ h < w'.heap.size ∧ Below w.heap.size w w'
theorem one_ret {a : Act} {w9 : World} {bz : Nat} {cs : List Value} {R : Ending → World → Prop} (h2 : a.tmps.getD 2 undef = .pointer (some ⟨bz, 0, none⟩)) (hd : a.defers = [])
    (hw : Whole w9 bz 34 cs) (hl : cs.length = 6) (hR : R (.returned (.agg cs.toArray)) w9) : bodyPost Tryd.prog Tryd.f11 R .ret a w9 := by
  have hld := run_load_ten hw hl
  have k2 : a.tmps[2]?.getD undef = .pointer (some ⟨bz, 0, none⟩) := by simpa using h2
  exact bodyPost_ret (v := .agg cs.toArray) (by simp [results, Tryd.results11, k2, asAddr, hld]) hd hR
set_option maxRecDepth 100000 in
theorem one_any (w : World) (id : Nat) : Calls Tryd.prog 11 #[.int .u32 (id : Int)] w (OneOut w id) := by
  obtain ⟨w1, hw1⟩ : ∃ w1, w.alloc (.cells #[.int .u32 (id : Int), .int .u64 1, .int .i64 5000, .int .u64 1, .int .i64 3, .slice (some ⟨w.heap.size + 1, 0, none⟩) 2 2] 34) = w1 := ⟨_, rfl⟩
  have b1 : Below w.heap.size w w1 := by rw [← hw1]; exact (Below.refl _ _).alloc (Nat.le_refl _) _
  have s1 : w1.heap.size = w.heap.size + 1 := by rw [← hw1]; simp
  have W1 : Whole w1 w.heap.size 34 [.int .u32 (id : Int), .int .u64 1, .int .i64 5000, .int .u64 1, .int .i64 3, .slice (some ⟨w.heap.size + 1, 0, none⟩) 2 2] := by rw [← hw1]; exact Whole.new_ rfl rfl
  obtain ⟨w2, hw2⟩ : ∃ w2, w1.alloc (.cells #[.int .i64 1, .int .i64 2] 2) = w2 := ⟨_, rfl⟩
  have b2 : Below w1.heap.size w1 w2 := by rw [← hw2]; exact (Below.refl _ _).alloc (Nat.le_refl _) _
  have s2 : w2.heap.size = w1.heap.size + 1 := by rw [← hw2]; simp
  have X2 : Whole w2 (w.heap.size + 1) 2 [.int .i64 1, .int .i64 2] := by rw [← hw2]; exact Whole.new_ s1.symm rfl
  have F : Hid (OneOut w id (.returned (TS.val ⟨oneT id, some ⟨w.heap.size + 1, 0, none⟩, 2, 2⟩)) w2) := Lib.hid (by
    refine ⟨w.heap.size + 1, rfl, ⟨rfl, Nat.le_refl _, by omega, (fun e => by cases e), .inr ⟨w.heap.size + 1, 0, rfl, fun i hi => ?_⟩⟩, by omega, by omega, b1.trans (b2.mono b1.size)⟩
    rw [Nat.zero_add, X2.at_]
    obtain rfl | rfl : i = 0 ∨ i = 1 := by omega
    · rfl
    · rfl)
  have WF := Lib.hid (W1.kept b2)
  have H1 := Lib.hid hw1
  have H2 := Lib.hid hw2
  clear b1 b2 s1 s2 W1 X2 hw1 hw2
  go_enter Tryd.func11, Tryd.ntmps11
  go_wp2_with fail
  rw [H1.out, H2.out]
  exact one_ret rfl rfl WF.out rfl F.out
end Go.Proofs.YtpgclhpobijdeaaDoor.man
