/-
  CONTRACTS of cmp.Compare, manifest.find's own function, slices.BinarySearchFunc at tenants, manifest.find.
-/
import Derived.Test.YtpgclhpobijdeaaDoorMnMay
import Derived.Shelf.AbstractIn
namespace Go.Proofs.YtpgclhpobijdeaaDoor.man
open Go.RowKit Go.Proofs.YtpgclhpobijdeaaDoor.disk Go.Proofs.YtpgclhpobijdeaaDoor.recd Go.Proofs.YtpgclhpobijdeaaDoor.num Go.Proofs.YtpgclhpobijdeaaDoor.scan
set_option linter.unusedVariables false

def cmpN (x y : Nat) : Int := if x < y then -1 else if y < x then 1 else 0
theorem nan_any (x : Nat) (w : World) : Calls Tryd.prog 61 #[.int .u32 (x : Int)] w fun e w' => e = .returned (.bool false) ∧ w = w' := by
  go_enter Tryd.func61, Tryd.ntmps61
  go_wp2
  go_ret
  exact ⟨ret_bool (by simp), rfl⟩
theorem compare_any (x y : Nat) (w : World) : Calls Tryd.prog 45 #[.int .u32 (x : Int), .int .u32 (y : Int)] w fun e w' => e = .returned (.int .i64 (cmpN x y)) ∧ w = w' := by
  have c1 := fun w => nan_any x w
  have c2 := fun w => nan_any y w
  by_cases h1 : (x : Int) < (y : Int)
  · have F : Hid (cmpN x y = -1) := Lib.hid (by rw [cmpN, if_pos (by omega)])
    go_enter Tryd.func45, Tryd.ntmps45
    go_wp2_with fail
    refine (c1 _).mono ?_
    rintro e w' ⟨rfl, rfl⟩
    go_wp2_with fail
    refine (c2 _).mono ?_
    rintro e w' ⟨rfl, rfl⟩
    go_wp2_with fail
    go_ret
    exact ⟨by rw [F.out]; rfl, rfl⟩
  · by_cases h2 : (y : Int) < (x : Int)
    · have F : Hid (cmpN x y = 1) := Lib.hid (by rw [cmpN, if_neg (by omega), if_pos (by omega)])
      go_enter Tryd.func45, Tryd.ntmps45
      go_wp2_with fail
      refine (c1 _).mono ?_
      rintro e w' ⟨rfl, rfl⟩
      go_wp2_with fail
      refine (c2 _).mono ?_
      rintro e w' ⟨rfl, rfl⟩
      go_wp2_with fail
      go_ret
      exact ⟨by rw [F.out]; rfl, rfl⟩
    · have F : Hid (cmpN x y = 0) := Lib.hid (by rw [cmpN, if_neg (by omega), if_neg (by omega)])
      go_enter Tryd.func45, Tryd.ntmps45
      go_wp2_with fail
      refine (c1 _).mono ?_
      rintro e w' ⟨rfl, rfl⟩
      go_wp2_with fail
      refine (c2 _).mono ?_
      rintro e w' ⟨rfl, rfl⟩
      go_wp2_with fail
      go_ret
      exact ⟨by rw [F.out]; rfl, rfl⟩
theorem key_any (x : TS) (id : Nat) (w : World) : Calls Tryd.prog 44 #[x.val, .int .u32 (id : Int)] w fun e w' => e = .returned (.int .i64 (cmpN x.t.id id)) ∧ Below w.heap.size w w' := by
  obtain ⟨⟨i, ep, qu, nx, ns, sg⟩, a, n, cap⟩ := x
  unfold TS.val
  simp only
  have B : Hid (Below w.heap.size w (w.alloc (.cells #[.int .u32 (i : Int), .int .u64 (ep : Int), .int .i64 qu, .int .u64 (nx : Int), .int .i64 ns, .slice a n cap] 34))) := Lib.hid ((Below.refl _ _).alloc (Nat.le_refl _) _)
  go_enter Tryd.func44, Tryd.ntmps44
  go_wp2_with fail
  refine (compare_any _ _ _).mono ?_
  rintro e w' ⟨rfl, rfl⟩
  go_wp2_with fail
  go_ret
  exact ⟨rfl, B.out⟩
/-- Where a tenant of that number is, or would be. -/
structure FindAt (l : List Ten) (id i : Nat) (f : Bool) : Prop where
  le : i ≤ l.length
  before : ∀ j t, j < i → l[j]? = some t → t.id < id
  behind : ∀ j t, i ≤ j → l[j]? = some t → id ≤ t.id
  found : f = true → ∃ t, l[i]? = some t ∧ t.id = id
  none_ : f = false → ∀ t ∈ l, t.id ≠ id
theorem riseB_lt : ∀ {l : List Ten} {last : Int}, riseB last l = true → ∀ (i j : Nat) (t u : Ten), i < j → l[i]? = some t → l[j]? = some u → t.id < u.id
  | [], _, _, i, j, t, u, _, h, _ => by simp at h
  | x :: l, last, h, 0, j + 1, t, u, _, h1, h2 => by
    simp only [riseB, Bool.and_eq_true, decide_eq_true_eq] at h
    rw [List.getElem?_cons_zero] at h1
    injection h1 with h1
    subst h1
    rw [List.getElem?_cons_succ] at h2
    have := (riseB_mem h.2 u (List.mem_of_getElem? h2)).1
    omega
  | x :: l, last, h, i + 1, j + 1, t, u, hij, h1, h2 => by
    simp only [riseB, Bool.and_eq_true, decide_eq_true_eq] at h
    rw [List.getElem?_cons_succ] at h1 h2
    exact riseB_lt h.2 i j t u (by omega) h1 h2

def FindOut (w : World) (l : List Ten) (id : Nat) (e : Ending) (w' : World) : Prop := ∃ (i : Nat) (f : Bool), e = .returned (.tuple #[.int .i64 ((i : Nat) : Int), .bool f]) ∧ FindAt l id i f ∧ Below w.heap.size w w'
/-- How far the search has come. -/
def Seek (xs : List TS) (id lo hi : Nat) : Prop := (∀ (j : Nat) (x : TS), j < lo → xs[j]? = some x → x.t.id < id) ∧ (∀ (j : Nat) (x : TS), hi ≤ j → xs[j]? = some x → id ≤ x.t.id)
set_option maxRecDepth 100000 in
set_option maxHeartbeats 2000000 in
theorem search_any (a : Option Addr) (n cap : Nat) (xs : List TS) (id : Nat) (w : World) (h : TRow w a n cap xs) (hn : n ≤ 100) (hr : ∀ (i j : Nat) (x y : TS), i < j → xs[i]? = some x → xs[j]? = some y → x.t.id < y.t.id) :
    Calls Tryd.prog 43 #[.slice a n cap, .int .u32 (id : Int), .func (.func 44) #[] #[]] w (FindOut w (tens xs) id) := by
  have HR := Lib.hid h
  have HL := Lib.hid h.length
  have HO := Lib.hid hr
  have eg := enters_of (P := Tryd.prog) Tryd.func44 (by kernel_rfl) rfl
  clear h hr
  go_enter Tryd.func43, Tryd.ntmps43
  go_wp2_with fail
  go_loopw [9, 10, 11] (fun u v _ wr => ∃ lo hi : Nat, u = .int .i64 (lo : Int) ∧ v = .int .i64 (hi : Int) ∧ lo ≤ hi ∧ hi ≤ n ∧ Hid (Below w.heap.size w wr) ∧ Hid (Seek xs id lo hi)) (fun u v _ _ => (intOf v - intOf u).toNat)
  case atStart => exact ⟨0, n, rfl, rfl, Nat.zero_le _, Nat.le_refl _, Lib.hid (Below.refl _ _), Lib.hid ⟨fun j x hj _ => by omega, fun j x hj hx => by
    have := (List.getElem?_eq_some_iff.1 hx).1
    have := HL.out
    omega⟩⟩
  case round =>
    obtain ⟨lo, hi, rfl, rfl, hlh, hhn, hB, hS⟩ := hrel
    by_cases hlt : lo < hi
    · have hltI : (lo : Int) < (hi : Int) := by omega
      obtain ⟨m, hm⟩ : ∃ m, (lo + hi) / 2 = m := ⟨_, rfl⟩
      have hmI : ((lo : Int) + (hi : Int)) / 2 = (m : Int) := by omega
      obtain ⟨b, off, x, rfl, hx, _, hfx, _, c0, c1, c2, c3, c4, c5⟩ := (HR.out.later hB.out).at_ (i := m) (by omega)
      have K := fun w => key_any x id w
      obtain ⟨⟨i', ep, qu, nx, ns, sg⟩, sa, sn, sc⟩ := x
      unfold TS.val at K
      simp only at c0 c1 c2 c3 c4 c5 K
      have hmn : (m : Int) < (n : Int) := by omega
      have HX := Lib.hid hx
      have HM := Lib.hid hm
      clear hx hm hfx
      by_cases hlow : i' < id
      · have hv : cmpN i' id = -1 := by rw [cmpN, if_pos hlow]
        rw [hv] at K
        have HS2 : Hid (Seek xs id (m + 1) hi) := Lib.hid ⟨fun j x hj hx => by
          by_cases e : j = m
          · subst e; rw [HX.out] at hx; injection hx with hx; subst hx; exact hlow
          · exact Nat.lt_trans (HO.out j m x _ (by omega) hx HX.out) hlow, hS.out.2⟩
        have KH := Lib.hid K
        clear K hv hlow hS
        go_wp2_with fail
        refine (KH.out _).mono ?_
        rintro e w2 ⟨rfl, b2⟩
        have B2 : Hid (Below w.heap.size w w2) := Lib.hid (hB.out.trans (b2.mono hB.out.size))
        clear b2 hB c0 c1 c2 c3 c4 c5
        go_wp2_with fail
        refine ⟨⟨m + 1, hi, by rw [Int.natCast_add]; rfl, rfl, by have := HM.out; omega, hhn, B2, HS2⟩, ?_⟩
        show ((hi : Int) - ((m : Int) + 1)).toNat < ((hi : Int) - (lo : Int)).toNat
        have := HM.out
        omega
      · have hv : ¬ cmpN i' id < 0 := by rw [cmpN, if_neg hlow]; split <;> omega
        obtain ⟨v, hve⟩ : ∃ v, cmpN i' id = v := ⟨_, rfl⟩
        rw [hve] at hv K
        have HS2 : Hid (Seek xs id lo m) := Lib.hid ⟨hS.out.1, fun j x hj hx => by
          by_cases e : j = m
          · subst e; rw [HX.out] at hx; injection hx with hx; subst hx; simp only; omega
          · have := HO.out m j _ x (by omega) HX.out hx
            simp only at this
            omega⟩
        have KH := Lib.hid K
        clear K hlow hS hve
        go_wp2_with fail
        refine (KH.out _).mono ?_
        rintro e w2 ⟨rfl, b2⟩
        have B2 : Hid (Below w.heap.size w w2) := Lib.hid (hB.out.trans (b2.mono hB.out.size))
        clear b2 hB c0 c1 c2 c3 c4 c5
        go_wp2_with fail
        refine ⟨⟨lo, m, rfl, rfl, by have := HM.out; omega, by have := HM.out; omega, B2, HS2⟩, ?_⟩
        show ((m : Int) - (lo : Int)).toNat < ((hi : Int) - (lo : Int)).toNat
        have := HM.out
        omega
    · obtain rfl : hi = lo := by omega
      have BEF : ∀ j t, j < hi → (tens xs)[j]? = some t → t.id < id := fun j t hj ht => by
        rw [tens, List.getElem?_map] at ht
        obtain ⟨x, hx, rfl⟩ := Option.map_eq_some_iff.1 ht
        exact hS.out.1 j x hj hx
      have BEH : ∀ j t, hi ≤ j → (tens xs)[j]? = some t → id ≤ t.id := fun j t hj ht => by
        rw [tens, List.getElem?_map] at ht
        obtain ⟨x, hx, rfl⟩ := Option.map_eq_some_iff.1 ht
        exact hS.out.2 j x hj hx
      have RIS : ∀ (i j : Nat) (t u : Ten), i < j → (tens xs)[i]? = some t → (tens xs)[j]? = some u → t.id < u.id := fun i j t u hij ht hu => by
        rw [tens, List.getElem?_map] at ht hu
        obtain ⟨x, hx, rfl⟩ := Option.map_eq_some_iff.1 ht
        obtain ⟨y, hy, rfl⟩ := Option.map_eq_some_iff.1 hu
        exact HO.out i j x y hij hx hy
      have NON : (∀ t, (tens xs)[hi]? = some t → t.id ≠ id) → ∀ t ∈ tens xs, t.id ≠ id := fun hno t ht => by
        obtain ⟨j, hj⟩ := List.getElem?_of_mem ht
        rcases Nat.lt_trichotomy j hi with hh | hh | hh
        · have := BEF j t hh hj; omega
        · subst hh; exact hno t hj
        · cases hi' : (tens xs)[hi]? with
          | none =>
            have := List.getElem?_eq_none_iff.1 hi'
            have := (List.getElem?_eq_some_iff.1 hj).1
            omega
          | some u =>
            have := RIS hi j u t hh hi' hj
            have := BEH hi u (Nat.le_refl _) hi'
            omega
      have LE : hi ≤ (tens xs).length := by rw [tens_length, HL.out]; exact hhn
      have HBEF := Lib.hid BEF
      have HBEH := Lib.hid BEH
      have HNON := Lib.hid NON
      have HLE := Lib.hid LE
      clear BEF BEH RIS NON LE hS
      by_cases hin : hi < n
      · have hinI : (hi : Int) < (n : Int) := by omega
        obtain ⟨b, off, x, rfl, hx, _, hfx, _, c0, c1, c2, c3, c4, c5⟩ := (HR.out.later hB.out).at_ (i := hi) hin
        have K := fun w => key_any x id w
        have HT := Lib.hid (tens_at hx)
        obtain ⟨⟨i', ep, qu, nx, ns, sg⟩, sa, sn, sc⟩ := x
        unfold TS.val at K
        simp only at c0 c1 c2 c3 c4 c5 K
        clear hx hfx
        by_cases hq : i' = id
        · have hv : cmpN i' id = 0 := by rw [cmpN, if_neg (by omega), if_neg (by omega)]
          rw [hv] at K
          have KH := Lib.hid K
          have F : Hid (FindAt (tens xs) id hi true) := Lib.hid ⟨HLE.out, HBEF.out, HBEH.out, fun _ => ⟨_, HT.out, hq⟩, fun e => by cases e⟩
          clear K hv hq
          go_wp2_with fail
          refine (KH.out _).mono ?_
          rintro e w2 ⟨rfl, b2⟩
          have B2 : Hid (Below w.heap.size w w2) := Lib.hid (hB.out.trans (b2.mono hB.out.size))
          clear b2 hB c0 c1 c2 c3 c4 c5
          go_wp2_with fail
          go_ret2
          exact ⟨hi, true, rfl, F.out, B2.out⟩
        · have hv : cmpN i' id ≠ 0 := by unfold cmpN; split; omega; split; omega; omega
          obtain ⟨v, hve⟩ : ∃ v, cmpN i' id = v := ⟨_, rfl⟩
          rw [hve] at hv K
          have KH := Lib.hid K
          have hv0 : (v == 0) = false := by rw [beq_eq_false_iff_ne]; exact hv
          have F : Hid (FindAt (tens xs) id hi false) := Lib.hid ⟨HLE.out, HBEF.out, HBEH.out, (fun e => by cases e), fun _ => HNON.out fun t ht => by
            rw [HT.out] at ht; injection ht with ht; subst ht; exact hq⟩
          clear K hv hq hve
          go_wp2_with fail
          refine (KH.out _).mono ?_
          rintro e w2 ⟨rfl, b2⟩
          have B2 : Hid (Below w.heap.size w w2) := Lib.hid (hB.out.trans (b2.mono hB.out.size))
          clear b2 hB c0 c1 c2 c3 c4 c5
          go_wp2_with fail
          go_ret2
          exact ⟨hi, false, rfl, F.out, B2.out⟩
      · have hinI : ¬ (hi : Int) < (n : Int) := by omega
        have F : Hid (FindAt (tens xs) id hi false) := Lib.hid ⟨HLE.out, HBEF.out, HBEH.out, (fun e => by cases e), fun _ => HNON.out fun t ht => by
          have := (List.getElem?_eq_some_iff.1 ht).1
          rw [tens_length, HL.out] at this
          omega⟩
        go_wp2_with fail
        go_ret2
        exact ⟨hi, false, rfl, F.out, hB.out⟩
theorem find_any (a : Option Addr) (n cap : Nat) (xs : List TS) (id : Nat) (w : World) (h : TRow w a n cap xs) (hm : mayB (tens xs) = true) :
    Calls Tryd.prog 25 #[.slice a n cap, .int .u32 (id : Int)] w (FindOut w (tens xs) id) := by
  have C := Lib.hid (search_any a n cap xs id w h (by have := mayB_len hm; rw [tens_length, h.length] at this; omega) fun i j x y hij hx hy => riseB_lt (mayB_rise hm) i j _ _ hij (tens_at hx) (tens_at hy))
  clear h hm
  go_enter Tryd.func25, Tryd.ntmps25
  go_wp2_with fail
  refine C.out.mono ?_
  rintro e w2 ⟨i, f, rfl, h1, h2⟩
  have H1 := Lib.hid h1
  have H2 := Lib.hid h2
  clear h1 h2 C
  go_wp2_with fail
  go_ret2
  exact ⟨i, f, rfl, H1.out, H2.out⟩
end Go.Proofs.YtpgclhpobijdeaaDoor.man
