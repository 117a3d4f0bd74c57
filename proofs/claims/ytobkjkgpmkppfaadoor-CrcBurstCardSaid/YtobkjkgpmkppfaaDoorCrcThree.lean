/-
  THE WALK OF 'CrcThree': of three texts of one length the sum of their exclusive or is the exclusive or of their sums.
-/
import Derived.Test.YtobkjkgpmkppfaaDoorCrcAppend
import Derived.BigRegion
namespace Go.Proofs.YtobkjkgpmkppfaaDoor.crc
open Go.RowKit

theorem run_min (w : World) (a b : Nat) : (Builtin.min_ #[3, 3] 3 #[.int .i64 (a : Int), .int .i64 (b : Int)]).run Tryd.prog w = .ok (.int .i64 ((min a b : Nat) : Int)) w := by
  have e : ((min a b : Nat) : Int) = if (b : Int) < (a : Int) then (b : Int) else (a : Int) := by split <;> omega
  rw [e]
  by_cases h : (b : Int) < (a : Int) <;> simp [Builtin.min_, Builtin.min2, h]

theorem run_make_bytes (w : World) (n : Nat) (hn : n ≤ 1000000) :
    ∃ w', (Instr.makeSlice 22 (.int .i64 (n : Int)) (.int .i64 (n : Int))).run Tryd.prog w = .ok (.slice (some ⟨w.heap.size, 0, none⟩) n n) w' ∧
      Own w' w.heap.size (.slice (some ⟨w.heap.size, 0, none⟩) n n) (List.replicate n 0) ∧ Below w.heap.size w w' := by
  obtain ⟨i0, hi, hz0, hz1, hz2⟩ := info_parts byte_info
  obtain ⟨w', h1, h2, h3⟩ := run_make_full (P := Tryd.prog) w w.heap.size 22 5 i0 (.int .u8 0) 1 Tryd.underlying22 hi hz0 hz1 .i64 .i64 n (by rw [hz2]; omega) (by unfold maxLen; omega) (Nat.le_refl _)
  refine ⟨w', h1, ?_, (Below.refl _ _).grown h3 (Nat.le_refl _) (fun k hk => by cases hk)⟩
  unfold Own
  rw [List.length_replicate]
  have e : u8s (List.replicate n 0) = (madeCells (Value.int .u8 0).cells (n * 1)).toList := by
    rw [show (Value.int .u8 0).cells = #[Value.int .u8 0] from rfl, toList_madeCells_one]
    simp [u8s]
  rw [e]; exact h2

/-- AT THE OPERATION: the lesser of two lengths. -/
theorem wpList_min_run {w : World} (m n : Nat) {ops : Array Oper} {rest : List Oper} {o : Oper} {a : Act} {Q : Exit → Act → World → Prop} (s x : Operand) (hgd : o.guard = none)
    (ho : o.op = .call { callee := .builtin .min, args := #[s, x], argTypes := #[3, 3] }) (hty : o.type = 3) (hs : a.eval s = .int .i64 (m : Int)) (hx : a.eval x = .int .i64 (n : Int))
    (h : wpList Tryd.prog ops Q rest (a.put o.dst (.int .i64 ((min m n : Nat) : Int))) w) : wpList Tryd.prog ops Q (o :: rest) a w := by
  refine wpList_plain hgd fun K hK => ?_
  unfold Oper.wp execOp
  simp only [ho, hty, resolve, invoke, builtin, Sem.run_bind, Sem.run_pure, Result.andThen_ok, List.map_toArray, List.map_cons, List.map_nil, hs, hx, run_min]
  exact hK _ _ h

def mixed (l : List Int) (n i : Nat) : List Int := l.take i ++ List.replicate (n - i) 0
theorem mixed_zero (l : List Int) (n : Nat) : mixed l n 0 = List.replicate n 0 := by simp [mixed]
theorem mixed_full (l : List Int) (n : Nat) (h : l.length = n) : mixed l n n = l := by
  unfold mixed; rw [← h, List.take_length]; simp
theorem mixed_length (l : List Int) (n i : Nat) (h : l.length = n) (hi : i ≤ n) : (mixed l n i).length = n := by
  unfold mixed; rw [List.length_append, List.length_take, List.length_replicate]; omega
theorem mixed_set (l : List Int) (n i : Nat) (h : l.length = n) (hi : i < n) : (mixed l n i).set i (l.getD i 0) = mixed l n (i + 1) := by
  unfold mixed
  rw [List.set_append_right _ _ (by rw [List.length_take]; omega), show (l.take i).length = i by rw [List.length_take]; omega, Nat.sub_self,
    show n - i = (n - (i + 1)) + 1 by omega, List.replicate_succ, List.set_cons_zero, List.take_succ_eq_append_getElem (by omega), List.append_assoc,
    List.getD_eq_getElem?_getD, List.getElem?_eq_getElem (by omega)]
  rfl

theorem Own.set {w : World} {base g n cap : Nat} {l : List Int} (h : Own w base (.slice (some ⟨g, 0, none⟩) n cap) l) (hl : l.length = n) (j : Nat) (c : Int) :
    Own (w.setCell ⟨g, j, none⟩ (.int .u8 c)) base (.slice (some ⟨g, 0, none⟩) n cap) (l.set j c) := by
  unfold Own at h ⊢
  rw [hl] at h
  rw [List.length_set, hl]
  have := (World.ownsRow.stored h j (.int .u8 c)).1
  rwa [show (u8s l).set j (.int .u8 c) = u8s (l.set j c) by simp [u8s, List.map_set]] at this
theorem Own.cell {w : World} {base g n cap : Nat} {l : List Int} (h : Own w base (.slice (some ⟨g, 0, none⟩) n cap) l) (hl : l.length = n) (j : Nat) (hj : j < n) :
    w.cell? ⟨g, j, none⟩ = some (.int .u8 (l.getD j 0)) := by
  unfold Own at h
  rw [hl] at h
  rw [World.ownsRow.cellAt h j (by omega), u8s_at l j (by omega)]
theorem Own.free {w : World} {base g n cap : Nat} {l : List Int} (h : Own w base (.slice (some ⟨g, 0, none⟩) n cap) l) (hl : l.length = n) (j : Nat) : w.frozen? ⟨g, j, none⟩ = false := by
  unfold Own at h
  rw [hl] at h
  exact World.ownsRow.frozenAt h j

theorem cell_of {w : World} {a : Option Addr} {l : List Int} (h : Bytes w a l) {i : Nat} (hi : i < l.length) : ∃ b off, a = some ⟨b, off, none⟩ ∧ w.cell? ⟨b, off + i, none⟩ = some (.int .u8 (l.getD i 0)) := by
  rcases h with rfl | ⟨b, off, rfl, hc⟩
  · simp at hi
  · exact ⟨b, off, rfl, hc i hi⟩

theorem sum_quiet (a : Option Addr) (l : List Int) (n cap : Nat) (w : World) (m : Nat) (hn : l.length = n) (hm : n ≤ 9223372036854775807) (hT : Tab w) (hB : Bytes w a l) (hb : Byte l) :
    Calls Tryd.prog 9 #[.slice a n cap] (w.drewN m) fun e w'' => e = .returned (.int .u32 ((sum l).toNat : Int)) ∧ ∃ q, w'' = w.drewN q :=
  (sum_at a l n cap (w.drewN m) hn hm hT hB hb).mono fun _ _ ⟨he, hw⟩ => ⟨he, m, hw.symm⟩

theorem three_any (a0 : Option Addr) (len0 cap0 : Nat) (l0 : List Int) (a1 : Option Addr) (len1 cap1 : Nat) (l1 : List Int) (a2 : Option Addr) (len2 cap2 : Nat) (l2 : List Int) (w : World) (hT : Tab w)
    (h0 : Row w a0 len0 cap0 l0) (h1 : Row w a1 len1 cap1 l1) (h2 : Row w a2 len2 cap2 l2) :
    Calls Tryd.prog 6 #[.slice a0 len0 cap0, .slice a1 len1 cap1, .slice a2 len2 cap2] w fun e w' => e = .returned (.bool true) ∧ Below w.heap.size w w' := by
  have HB := Lib.hid (begun_any w hT)
  have hm0 : min len0 100 ≤ 100 := by omega
  have hs0 := h0.short 100
  have hs1 := h1.short 100
  have hs2 := h2.short 100
  have HS0 := Lib.hid (fun w1 => short_any a0 len0 cap0 100 w1 h0.le h0.nil (by omega))
  have HS1 := Lib.hid (fun w1 => short_any a1 len1 cap1 100 w1 h1.le h1.nil (by omega))
  have HS2 := Lib.hid (fun w1 => short_any a2 len2 cap2 100 w1 h2.le h2.nil (by omega))
  clear h0 h1 h2
  generalize min len0 100 = m0 at hs0 HS0 hm0
  generalize l0.take 100 = k0 at hs0
  generalize min len1 100 = m1 at hs1 HS1
  generalize l1.take 100 = k1 at hs1
  generalize min len2 100 = m2 at hs2 HS2
  generalize l2.take 100 = k2 at hs2
  have H0 := Lib.hid hs0
  have H1 := Lib.hid hs1
  have H2 := Lib.hid hs2
  clear hs0 hs1 hs2
  go_enter Tryd.func6, Tryd.ntmps6
  go_wp2_with fail
  refine HB.out.mono ?_; rintro e w1 ⟨rfl, hb1⟩
  have HB1 := Lib.hid hb1
  have HT1 := Lib.hid (hT.later hb1)
  have R0 := Lib.hid (H0.out.later hb1)
  have R1 := Lib.hid (H1.out.later hb1)
  have R2 := Lib.hid (H2.out.later hb1)
  clear hb1 H0 H1 H2 HB hT
  go_wp2_with fail
  refine (HS0.out _).mono ?_; rintro e w' ⟨rfl, rfl⟩
  go_wp2_with fail
  refine (HS1.out _).mono ?_; rintro e w' ⟨rfl, rfl⟩
  go_wp2_with fail
  refine (HS2.out _).mono ?_; rintro e w' ⟨rfl, rfl⟩
  clear HS0 HS1 HS2
  obtain ⟨n, hn⟩ : ∃ n, n = min m0 (min m1 m2) := ⟨_, rfl⟩
  have hn0 : n ≤ m0 := by omega
  have hn1 : n ≤ m1 := by omega
  have hn2 : n ≤ m2 := by omega
  have HN := Lib.hid hn
  clear hn
  obtain ⟨w2, hmk, own0, bel2⟩ := run_make_bytes w1 n (by omega)
  have OWN0 := Lib.hid own0
  have BEL2 := Lib.hid bel2
  clear own0 bel2
  go_wp2_with (first
    | (refine wpList_min_run m1 m2 (.tmp 23) (.tmp 25) rfl rfl rfl rfl rfl ?_)
    | (refine wpList_min_run m0 (min m1 m2) (.tmp 21) (.tmp 26) rfl rfl rfl rfl rfl ?_; rw [← HN.out])
    | fail)
  obtain ⟨L, hL⟩ : ∃ L, L = List.zipWith bx (List.zipWith bx (k0.take n) (k1.take n)) (k2.take n) := ⟨_, rfl⟩
  have hLl : L.length = n := by
    rw [hL]; simp only [List.length_zipWith, List.length_take, R0.out.length, R1.out.length, R2.out.length]; omega
  have HL := Lib.hid hL
  have HLl := Lib.hid hLl
  clear hL hLl
  have hat : ∀ k, k < n → L.getD k 0 = bx (bx (k0.getD k 0) (k1.getD k 0)) (k2.getD k 0) := by
    intro k hk
    rw [HL.out]
    have e0 := R0.out.length
    have e1 := R1.out.length
    have e2 := R2.out.length
    simp only [List.getD_eq_getElem?_getD, List.getElem?_zipWith, List.getElem?_take_of_lt hk, List.getElem?_eq_getElem (show k < k0.length by omega), List.getElem?_eq_getElem (show k < k1.length by omega), List.getElem?_eq_getElem (show k < k2.length by omega)]
    rfl
  have HAT := Lib.hid hat
  clear hat hmk
  go_loopw [10] (fun i wr => ∃ k : Nat, k ≤ n ∧ i = .int .i64 k ∧ Own wr w1.heap.size (.slice (some ⟨w1.heap.size, 0, none⟩) n n) (mixed L n k) ∧ Below w1.heap.size w1 wr) (fun i _ => n - (intOf i).toNat)
  case atStart => exact ⟨0, Nat.zero_le _, rfl, by rw [mixed_zero]; exact OWN0.out, BEL2.out⟩
  case round =>
    obtain ⟨k, hk, rfl, hown, hbel⟩ := hrel
    by_cases hlt : k < n
    · have R0' := R0.out.later hbel
      have R1' := R1.out.later hbel
      have R2' := R2.out.later hbel
      obtain ⟨b0, f0, rfl, c0⟩ := cell_of R0'.bytes (i := k) (by have := R0'.length; omega)
      obtain ⟨b1, f1, rfl, c1⟩ := cell_of R1'.bytes (i := k) (by have := R1'.length; omega)
      obtain ⟨b2, f2, rfl, c2⟩ := cell_of R2'.bytes (i := k) (by have := R2'.length; omega)
      have ho := hown.cell (mixed_length L n k HLl.out hk) k hlt
      have hf := hown.free (mixed_length L n k HLl.out hk) k
      have hset := hown.set (mixed_length L n k HLl.out hk) k (L.getD k 0)
      rw [mixed_set L n k HLl.out hlt] at hset
      have hbel' := hbel.setCell (p := ⟨w1.heap.size, k, none⟩) (Nat.le_refl _) (.int .u8 (L.getD k 0))
      have hx := HAT.out k hlt
      unfold bx at hx
      have h0 : k < m0 := by omega
      have h1 : k < m1 := by omega
      have h2 : k < m2 := by omega
      clear R0' R1' R2' hown hbel
      generalize k0.getD k 0 = x0 at c0 hx
      generalize k1.getD k 0 = x1 at c1 hx
      generalize k2.getD k 0 = x2 at c2 hx
      generalize L.getD k 0 = y at hx hset hbel'
      generalize (mixed L n k).getD k 0 = z at ho
      have hx' := hx.symm
      have HSET := Lib.hid hset
      have HBEL := Lib.hid hbel'
      clear hx hset hbel'
      go_wp2
      go_region
      go_wp2
      go_roundw
      case rel => exact ⟨k + 1, by omega, by go_num, HSET.out, HBEL.out.drew⟩
      case measure => simp [intOf]; omega
    · have hkn : k = n := by omega
      subst hkn
      rw [mixed_full L k HLl.out] at hown
      obtain ⟨_, _, e, _, _, _, hby⟩ := hown.form
      have hby' : Bytes wr (some ⟨w1.heap.size, 0, none⟩) L := by
        injection e with e1 e2 e3
        rw [e1]; exact hby
      clear hby e
      have HBY := Lib.hid hby'
      have HBEL := Lib.hid hbel
      have R0' := Lib.hid (R0.out.later hbel)
      have R1' := Lib.hid (R1.out.later hbel)
      have R2' := Lib.hid (R2.out.later hbel)
      have HT' := Lib.hid (HT1.out.later hbel)
      clear hown hby' hbel
      have hby0 : Byte (k0.take k) := R0'.out.byte.take k
      have hby1 : Byte (k1.take k) := R1'.out.byte.take k
      have hby2 : Byte (k2.take k) := R2'.out.byte.take k
      have HY0 := Lib.hid hby0
      have HY1 := Lib.hid hby1
      have HY2 := Lib.hid hby2
      have HYL : Hid (Byte L) := by show Byte L; rw [HL.out]; exact (hby0.zip hby1).zip hby2
      have hl0 : (k0.take k).length = k := by rw [List.length_take, R0'.out.length]; omega
      have hl1 : (k1.take k).length = k := by rw [List.length_take, R1'.out.length]; omega
      have hl2 : (k2.take k).length = k := by rw [List.length_take, R2'.out.length]; omega
      have HL0 := Lib.hid hl0
      have HL1 := Lib.hid hl1
      have HL2 := Lib.hid hl2
      have hsum : sum L = sum (k0.take k) ^^^ sum (k1.take k) ^^^ sum (k2.take k) := by
        rw [HL.out]; exact sum_three _ _ _ hby0 hby1 hby2 (by omega) (by omega)
      have C := fun m => sum_quiet (some ⟨w1.heap.size, 0, none⟩) L k k wr m HLl.out (by omega) HT'.out HBY.out HYL.out
      have C0 := fun m => sum_quiet a0 (k0.take k) k cap0 wr m hl0 (by omega) HT'.out (R0'.out.bytes.take k) hby0
      have C1 := fun m => sum_quiet a1 (k1.take k) k cap1 wr m hl1 (by omega) HT'.out (R1'.out.bytes.take k) hby1
      have C2 := fun m => sum_quiet a2 (k2.take k) k cap2 wr m hl2 (by omega) HT'.out (R2'.out.bytes.take k) hby2
      have hle0 : k ≤ cap0 := by have := R0'.out.le; omega
      have hle1 : k ≤ cap1 := by have := R1'.out.le; omega
      have hle2 : k ≤ cap2 := by have := R2'.out.le; omega
      have hc0 : cap0 ≤ 9223372036854775807 := R0'.out.most
      have hc1 : cap1 ≤ 9223372036854775807 := R1'.out.most
      have hc2 : cap2 ≤ 9223372036854775807 := R2'.out.most
      clear hby0 hby1 hby2 hl0 hl1 hl2
      generalize sum L = z at C hsum
      generalize sum (k0.take k) = z0 at C0 hsum
      generalize sum (k1.take k) = z1 at C1 hsum
      generalize sum (k2.take k) = z2 at C2 hsum
      have x1 := u32_xor_bv z0 z1
      generalize hp : z0 ^^^ z1 = p at x1 hsum
      have x2 := u32_xor_bv p z2
      rw [← hsum] at x2
      have D := Lib.hid C
      have D0 := Lib.hid C0
      have D1 := Lib.hid C1
      have D2 := Lib.hid C2
      clear C C0 C1 C2 hp hsum
      go_wp2_with fail
      go_quiet ((first | (go_at_call 9; exact D.out _) | (go_at_call 9; exact D0.out _) | (go_at_call 9; exact D1.out _) | (go_at_call 9; exact D2.out _)))
      go_wp2
      go_ret
      have hfin : Below w.heap.size w wr := HB1.out.trans (HBEL.out.mono HB1.out.size)
      exact ⟨rfl, ⟨hfin.os, hfin.tape, hfin.output, hfin.size, hfin.block⟩⟩
end Go.Proofs.YtobkjkgpmkppfaaDoor.crc
