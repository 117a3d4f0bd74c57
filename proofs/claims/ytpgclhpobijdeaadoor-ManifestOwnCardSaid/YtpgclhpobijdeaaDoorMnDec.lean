/-
  CONTRACTS of manifest.Encode where tenants may not be, and of manifest.Decode.
-/
import Derived.Test.YtpgclhpobijdeaaDoorMnEnc
import Derived.Test.YtpgclhpobijdeaaDoorMnParse
namespace Go.Proofs.YtpgclhpobijdeaaDoor.man
open Go.RowKit Go.Proofs.YtpgclhpobijdeaaDoor.disk Go.Proofs.YtpgclhpobijdeaaDoor.recd Go.Proofs.YtpgclhpobijdeaaDoor.num Go.Proofs.YtpgclhpobijdeaaDoor.scan
set_option linter.unusedVariables false

theorem manEncode_no (a : Option Addr) (len cap : Nat) (xs : List TS) (w : World) (h : TRow w a len cap xs) (hmb : mayB (tens xs) = false) :
    Calls Tryd.prog 16 #[.slice a len cap] w fun e w' => e = .returned (.slice none 0 0) ∧ Below w.heap.size w w' := by
  have hcm := manMay_any a len cap xs w h
  rw [hmb] at hcm
  have CM := Lib.hid hcm
  clear h hcm hmb
  go_enter Tryd.func16, Tryd.ntmps16
  go_wp2_with fail
  refine CM.out.mono ?_
  rintro en w1 ⟨rfl, b1⟩
  have B1 := Lib.hid b1
  clear b1
  go_wp2_with fail
  go_ret
  exact ⟨rfl, B1.out⟩
/-- Tenants in a row of the call's own. -/
structure TOwn (w : World) (g n : Nat) (xs : List TS) : Prop where
  length : xs.length = n
  row : OwnR w g n (flat fTen xs)
  fresh : Fresh w g xs
theorem TOwn.later {w w' : World} {g n : Nat} {xs : List TS} (h : TOwn w g n xs) (hb : Below w.heap.size w w') : TOwn w' g n xs :=
  ⟨h.length, h.row.same (hb.block g h.row.lt), h.fresh.turned (R := fun _ => False) (Turn.of_below hb) (fun _ _ _ e => e)⟩
theorem TOwn.trow {w : World} {g n : Nat} {xs : List TS} (h : TOwn w g n xs) : TRow w (some ⟨g, 0, none⟩) n n xs := by
  obtain ⟨a, cap, e, hr, _⟩ := TRow.of_own (h.row.to h.length |> fun o => (by rw [← h.length] at o; exact o)) h.fresh.tens
  injection e with e1 e2 e3
  rw [← e1, ← e3, h.length] at hr
  exact hr
/-- What Decode answers with. -/
def DecOut (w : World) (b : List Int) (e : Ending) (w' : World) : Prop := Below w.heap.size w w' ∧
  ((decT b = none ∧ e = .returned (.tuple #[.slice none 0 0, .bool false])) ∨
   ∃ (g n : Nat) (xs : List TS), e = .returned (.tuple #[.slice (some ⟨g, 0, none⟩) n n, .bool true]) ∧ decT b = some (tens xs) ∧ TOwn w' g n xs ∧ w.heap.size ≤ g)
set_option maxRecDepth 100000 in
theorem manDecode_any (a : Option Addr) (len cap : Nat) (b : List Int) (w : World) (h : Bytes w a len cap b) : Calls Tryd.prog 18 #[.slice a len cap] w (DecOut w b) := by
  have HB := Lib.hid h
  have CP := Lib.hid (parse_any a len cap b w h)
  have hl := h.length
  clear h
  go_enter Tryd.func18, Tryd.ntmps18
  go_wp2_with fail
  refine CP.out.mono ?_
  rintro en w1 ⟨g, n, xs, rfl, t1, l1, o1, f1, g1, b1⟩
  have T1 : Hid (TOwn w1 g n xs) := Lib.hid ⟨l1, o1, f1⟩
  have CE := Lib.hid (manEncode_any _ n n xs w1 T1.out.trow)
  have HT := Lib.hid t1
  have B1 := Lib.hid b1
  have HG := Lib.hid g1
  clear t1 l1 o1 f1 g1 b1 CP
  go_wp2_with fail
  refine CE.out.mono ?_
  rintro en w2 ⟨v, rfl, o2, _, b2⟩
  obtain ⟨a2, c2, rfl, _, _, _, l2, _⟩ := o2.form
  have b12 := B1.out.trans (b2.mono B1.out.size)
  have hle := HB.out.leads.later b12
  have ce := equal_any w2 a2 a (encO (tens xs)).length len c2 cap (encO (tens xs)) b l2 hle (encO_byte _) HB.out.byte
  rw [hl] at ce
  obtain ⟨m, hm⟩ : ∃ m, (encO (tens xs)).length = m := ⟨_, rfl⟩
  rw [hm] at ce ⊢
  have T2 := Lib.hid (T1.out.later b2)
  have B2 := Lib.hid b12
  by_cases hq : encO (tens xs) = b
  · rw [decide_eq_true hq] at ce
    have CQ := Lib.hid ce
    have F : Hid (DecOut w b (.returned (.tuple #[.slice (some ⟨g, 0, none⟩) n n, .bool true])) w2) := Lib.hid ⟨B2.out, .inr ⟨g, n, xs, rfl, by rw [decT, ← HT.out, if_pos hq], T2.out, HG.out⟩⟩
    clear ce hle hm o2 l2 b2 b12 hq CE T1 T2
    go_wp2_with fail
    refine CQ.out.mono ?_
    rintro en w3 ⟨rfl, rfl⟩
    go_wp2_with fail
    go_ret2
    exact F.out
  · rw [decide_eq_false hq] at ce
    have CQ := Lib.hid ce
    have F : Hid (DecOut w b (.returned (.tuple #[.slice none 0 0, .bool false])) w2) := Lib.hid ⟨B2.out, .inl ⟨by rw [decT, ← HT.out, if_neg hq], rfl⟩⟩
    clear ce hle hm o2 l2 b2 b12 hq CE T1 T2
    go_wp2_with fail
    refine CQ.out.mono ?_
    rintro en w3 ⟨rfl, rfl⟩
    go_wp2_with fail
    go_ret2
    exact F.out
end Go.Proofs.YtpgclhpobijdeaaDoor.man
