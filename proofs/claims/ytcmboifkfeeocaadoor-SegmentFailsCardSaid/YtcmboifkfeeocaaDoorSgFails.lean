/-
  THE WALK OF 'stillroomlaw8.SegmentFails' (P8.1).
-/
import Derived.Test.YtcmboifkfeeocaaDoorSgBegun
import Derived.Test.YtcmboifkfeeocaaDoorMDkC
namespace Go.Proofs.YtcmboifkfeeocaaDoor.scan
open Go.RowKit Go.Proofs.YtcmboifkfeeocaaDoor.disk Go.Proofs.YtcmboifkfeeocaaDoor.recd Go.Proofs.YtcmboifkfeeocaaDoor.seg
set_option linter.unusedVariables false

/-- The record that the law appends. -/
def sq (t y : Nat) : Rec := ⟨2, t, 0, 0, y, ⟨#[]⟩⟩
theorem sq_of {t y : Nat} (hy : y ≤ 1000) : OneOf t (sq t y) := ⟨rfl, by
  unfold sq
  rw [mayB_eq]
  exact decide_eq_true ⟨by omega, by omega, by omega, by omega, by show ((0 : Nat) : Int) ≤ 1000; omega⟩⟩
theorem sq_fit {t y : Nat} (ht : t < 4294967296) : (sq t y).Fit := ⟨by show -9223372036854775808 ≤ (2 : Int) ∧ (2 : Int) ≤ _; omega, ht, by show 0 ≤ maxLen; omega⟩
theorem cat_sq (t y : Nat) : (cat [sq t y]).length = 39 := by rw [cat_one, encL_length]; rfl

/-- The loop under way. -/
structure Writing (W : World) (p s t b nf y : Nat) (gs : List Rec) (A : FileA) (wr : World) : Prop where
  held : Held W (fun k => False ∨ k = s) wr p (SegSt (within 1048576) t 1 b A (if y ≤ nf then (nf : Int) - y else -1) (2 + y) 0) (3 + 2 * y)
  seg : SegAt wr s p (nameB t 1) t true
  bytes : A.now = cat gs
  one : ∀ r ∈ gs, OneOf t r
  len : (cat gs).length = gs.length * 39
  le : gs.length ≤ y
theorem within_mb : within 1048576 = 1048576 := by decide

theorem Writing.good {W : World} {p s t b nf y : Nat} {gs : List Rec} {A : FileA} {wr : World} (h : Writing W p s t b nf y gs A wr) (hT : Tabs W) (ht : t < 4294967296) (hy : y < 15) (hne : y ≠ nf) (hnf : nf ≤ 15) (cap : Nat) :
    Calls Tryd.prog 12 #[.pointer (some ⟨s, 0, none⟩), .slice (some ⟨wr.heap.size, 0, none⟩) 1 cap] (wr.alloc (.cells #[.int .i64 2, .int .u32 (t : Int), .int .u64 0, .int .u64 0, .int .u64 (y : Int), .string ⟨#[]⟩] 33)) fun e w' =>
      ∃ v A', e = .returned (.tuple #[v, .int .i64 0]) ∧ Writing W p s t b nf (y + 1) (gs ++ [sq t y]) A' w' := by
  have hl : A.now.length = gs.length * 39 := by rw [h.bytes, h.len]
  have hle := h.le
  refine (segapp_cells hT h.held (by omega) h.seg (.inr rfl) [sq t y] (by simp) (fun r hr => by rw [List.mem_singleton.1 hr]; exact sq_of (by omega)) (fun r hr => by rw [List.mem_singleton.1 hr]; exact sq_fit ht) (by simp) 1 cap rfl #[.int .i64 2, .int .u32 (t : Int), .int .u64 0, .int .u64 0, .int .u64 (y : Int), .string ⟨#[]⟩] rfl (by split <;> omega) (by rw [cat_sq, within_mb]; omega)).mono ?_
  rintro e w' ⟨v, rfl, _, _, h4, h5⟩
  refine ⟨v, _, rfl, ?_, h.seg.kept (.inr rfl) h5, by rw [FileA.write_end, h.bytes, cat_append], fun r hr => ?_, ?_, by simp; omega⟩
  · have h6 := h4.fewer (Y := fun k => False ∨ k = s) fun k hk => .inl hk
    have e1 : less (if y ≤ nf then (nf : Int) - y else -1) = if y + 1 ≤ nf then (nf : Int) - ((y + 1 : Nat) : Int) else -1 := by
      unfold less
      by_cases h1 : y ≤ nf
      · have h2 : y + 1 ≤ nf := by omega
        have h3 : ¬ ((nf : Int) - (y : Int) = -1) := by omega
        simp only [if_pos h1, if_pos h2, if_neg h3]
        omega
      · have h2 : ¬ y + 1 ≤ nf := by omega
        simp only [if_neg h1, if_neg h2, if_true]
    rw [e1, show (2 : Int) + (y : Int) + 1 = 2 + ((y + 1 : Nat) : Int) by omega, show 3 + 2 * y + 2 = 3 + 2 * (y + 1) by omega] at h6
    exact h6
  · rcases List.mem_append.1 hr with hr | hr
    · exact h.one r hr
    · rw [List.mem_singleton.1 hr]; exact sq_of (by omega)
  · rw [cat_append, List.length_append, h.len, cat_sq, List.length_append, List.length_singleton]; omega
theorem Writing.fails {W : World} {p s t b y : Nat} {gs : List Rec} {A : FileA} {wr : World} (h : Writing W p s t b y y gs A wr) (hT : Tabs W) (ht : t < 4294967296) (hy : y < 15) (cap : Nat) :
    Calls Tryd.prog 12 #[.pointer (some ⟨s, 0, none⟩), .slice (some ⟨wr.heap.size, 0, none⟩) 1 cap] (wr.alloc (.cells #[.int .i64 2, .int .u32 (t : Int), .int .u64 0, .int .u64 0, .int .u64 (y : Int), .string ⟨#[]⟩] 33)) fun e w' =>
      e = .returned (.tuple #[.slice none 0 0, .int .i64 3]) ∧ Writing W p s t b y (y + 1) gs A w' := by
  have hle := h.le
  have hh := h.held
  rw [if_pos (Nat.le_refl _), Int.sub_self] at hh
  refine (segapp_cells_fails hT hh (by omega) h.seg (.inr rfl) [sq t y] (by simp) (fun r hr => by rw [List.mem_singleton.1 hr]; exact sq_of (by omega)) (fun r hr => by rw [List.mem_singleton.1 hr]; exact sq_fit ht) (by simp) 1 cap rfl #[.int .i64 2, .int .u32 (t : Int), .int .u64 0, .int .u64 0, .int .u64 (y : Int), .string ⟨#[]⟩] rfl).mono ?_
  rintro e w' ⟨rfl, h4, h5⟩
  refine ⟨rfl, ?_, h.seg.kept (.inr rfl) h5, h.bytes, h.one, h.len, by omega⟩
  rw [if_neg (by omega), show (2 : Int) + ((y + 1 : Nat) : Int) = 2 + (y : Int) + 1 by omega, show 3 + 2 * (y + 1) = 3 + 2 * y + 2 by omega]
  exact h4

set_option maxRecDepth 100000 in
set_option maxHeartbeats 4000000 in
theorem segfails_out (w : World) (hT : Tabs w) (t : Nat) (ht : t < 4294967296) (n k : Int) (hout : n < 1 ∨ 15 < n ∨ k < 0 ∨ 15 < k) : Calls Tryd.prog 5 #[.int .u32 (t : Int), .int .i64 n, .int .i64 k] w fun e w' => e = .returned (.bool true) ∧ Below w.heap.size w w' := by
  have CB := Lib.hid (sbegun_any w hT)
  by_cases c1 : n < 1
  · clear hout
    go_enter Tryd.func5, Tryd.ntmps5
    go_wp2_with fail
    refine CB.out.mono ?_
    rintro e w1 ⟨rfl, h1⟩
    have H1 := Lib.hid h1
    clear h1
    go_wp2_with fail
    go_ret
    exact ⟨rfl, H1.out⟩
  · by_cases c2 : 15 < n
    · clear hout
      go_enter Tryd.func5, Tryd.ntmps5
      go_wp2_with fail
      refine CB.out.mono ?_
      rintro e w1 ⟨rfl, h1⟩
      have H1 := Lib.hid h1
      clear h1
      go_wp2_with fail
      go_ret
      exact ⟨rfl, H1.out⟩
    · by_cases c3 : k < 0
      · clear hout
        go_enter Tryd.func5, Tryd.ntmps5
        go_wp2_with fail
        refine CB.out.mono ?_
        rintro e w1 ⟨rfl, h1⟩
        have H1 := Lib.hid h1
        clear h1
        go_wp2_with fail
        go_ret
        exact ⟨rfl, H1.out⟩
      · have c4 : 15 < k := by omega
        clear hout
        go_enter Tryd.func5, Tryd.ntmps5
        go_wp2_with fail
        refine CB.out.mono ?_
        rintro e w1 ⟨rfl, h1⟩
        have H1 := Lib.hid h1
        clear h1
        go_wp2_with fail
        go_ret
        exact ⟨rfl, H1.out⟩

set_option maxRecDepth 100000 in
set_option maxHeartbeats 4000000 in
theorem segfails_in (w : World) (hT : Tabs w) (t : Nat) (ht : t < 4294967296) (n nf : Nat) (hn1 : 1 ≤ n) (hn : n ≤ 15) (hk : nf ≤ 15) : Calls Tryd.prog 5 #[.int .u32 (t : Int), .int .i64 (n : Int), .int .i64 (nf : Int)] w fun e w' => e = .returned (.bool true) ∧ Below w.heap.size w w' := by
  have CB := Lib.hid (sbegun_any w hT)
  have HT := Lib.hid hT
  have hn1' : ¬ ((n : Int) < 1) := by omega
  have hn' : ¬ (15 : Int) < (n : Int) := by omega
  have hk' : ¬ (15 : Int) < (nf : Int) := by omega
  clear hT
  go_enter Tryd.func5, Tryd.ntmps5
  go_wp2_with fail
  refine CB.out.mono ?_
  rintro e w1 ⟨rfl, h1⟩
  have H1 := Lib.hid h1
  clear h1 CB
  go_wp2_with fail
  refine (new_any w1 1048576).mono ?_
  rintro e w2 ho
  obtain ⟨p, rfl, h2, _⟩ := held_new (W := w) (X := fun _ => False) (fun _ e => e.elim) H1.out ho
  have C2 := Lib.hid (segcreate_new HT.out w2 p 1048576 h2 t 1 ht (by omega))
  clear ho h2
  go_wp2_with fail
  refine C2.out.mono ?_
  rintro e w3 ⟨b, s, rfl, s3, h3, _, _⟩
  have H3 := Lib.hid h3
  have S3 := Lib.hid s3
  have C3 := Lib.hid (fail_any w3 p _ _ h3.disk (nf : Int) (by omega))
  clear s3 h3 C2
  go_wp2_with fail
  refine C3.out.mono ?_
  rintro e w4 ho
  obtain ⟨rfl, h4, k4⟩ := H3.out.out ho
  have start : Writing w p s t b nf 0 [] ⟨[], [], []⟩ w4 := by
    refine ⟨?_, S3.out.kept (.inr rfl) k4, rfl, (fun r hr => by cases hr), rfl, Nat.le_refl _⟩
    have := h4
    unfold St.failing at this
    rw [show max (nf : Int) (-1) = (nf : Int) by omega] at this
    rw [if_pos (Nat.zero_le _)]
    exact this
  have ST := Lib.hid start
  clear ho h4 k4 start C3
  go_wp2_with fail
  go_loopw [12, 11] (fun i a wr => ∃ (y : Nat) (gs : List Rec) (A : FileA), y ≤ n ∧ i = .int .i64 (y : Int) ∧ a = .int .i64 (gs.length : Int) ∧ Writing w p s t b nf y gs A wr) (fun i _ _ => n - (intOf i).toNat)
  case atStart => exact ⟨0, [], _, Nat.zero_le _, rfl, rfl, ST.out⟩
  case round =>
    obtain ⟨y, gs, A, hy, rfl, rfl, hF⟩ := hrel
    have HF := Lib.hid hF
    have hle := hF.le
    clear hF
    by_cases hlt : y < n
    · have hltI : (y : Int) < (n : Int) := by omega
      by_cases e1 : y = nf
      · subst e1
        have CW := Lib.hid (HF.out.fails HT.out ht (by omega) 1)
        go_wp2_with fail
        refine CW.out.mono ?_
        rintro e w5 ⟨rfl, h5⟩
        have NX := Lib.hid h5
        clear h5 CW
        go_wp2_with fail
        refine ⟨⟨y + 1, gs, _, by omega, by rw [Int.natCast_add]; rfl, rfl, NX.out⟩, ?_⟩
        show n - ((y : Int) + 1).toNat < n - ((y : Int)).toNat
        omega
      · have e1' : ((y : Int) == (nf : Int)) = false := by rw [beq_eq_false_iff_ne]; omega
        have CW := Lib.hid (HF.out.good HT.out ht (by omega) e1 hk 1)
        clear e1
        go_wp2_with fail
        refine CW.out.mono ?_
        rintro e w5 ⟨v, A', rfl, h5⟩
        have NX := Lib.hid h5
        clear h5 CW
        go_wp2_with fail
        refine ⟨⟨y + 1, gs ++ [sq t y], _, by omega, by rw [Int.natCast_add]; rfl, by rw [List.length_append, List.length_singleton, Int.natCast_add]; rfl, NX.out⟩, ?_⟩
        show n - ((y : Int) + 1).toNat < n - ((y : Int)).toNat
        omega
    · obtain rfl : y = n := by omega
      have hltI : ¬ (y : Int) < (y : Int) := by omega
      have CR := segrecords HT.out HF.out.held (by omega) HF.out.seg (.inr rfl)
      have hfine : ∀ r ∈ gs, Fine r := fun r hr => ⟨(HF.out.one r hr).2, by rw [(HF.out.one r hr).1]; exact ht⟩
      rw [HF.out.bytes, segF_all t gs hfine fun r hr => (HF.out.one r hr).1] at CR
      have HCR := Lib.hid CR
      have hfl := finds_length 0 gs
      obtain ⟨fs, hfs⟩ : ∃ fs, finds 0 gs = fs := ⟨_, rfl⟩
      have hAl : A.now.length = gs.length * 39 := by rw [HF.out.bytes, HF.out.len]
      have HAL := Lib.hid hAl
      obtain ⟨m, hm⟩ : ∃ m, gs.length = m := ⟨_, rfl⟩
      have HM := Lib.hid hm
      rw [hm] at hle hfl ⊢
      have HFL := Lib.hid hfl
      clear CR hfine hAl hm hfl hfs
      go_wp2_with fail
      refine HCR.out.mono ?_
      rintro e w5 ⟨v5, rfl, r5, _, h5, k5, _⟩
      obtain ⟨a5, c5, e5, _, _, _⟩ := r5.slice
      simp only [HFL.out] at e5
      subst e5
      have C5 := segsize h5 (HF.out.seg.kept (.inr rfl) k5)
      rw [HAL.out, HM.out] at C5
      have HC5 := Lib.hid C5
      have B5 := Lib.hid h5.below
      clear r5 h5 k5 C5 HCR
      go_wp2_with fail
      refine HC5.out.mono ?_
      rintro e w6 ⟨rfl, q6, rfl⟩
      have B6 := Lib.hid (below_draws B5.out q6)
      have hmul : ((m * 39 : Nat) : Int) = (m : Int) * 39 := by rw [Int.natCast_mul]; rfl
      rw [hmul]
      clear hmul
      go_wp2_with fail
      go_ret
      exact ⟨rfl, B6.out⟩
theorem segfails_any (w : World) (hT : Tabs w) (t : Nat) (ht : t < 4294967296) {n k : Int} (_ : -9223372036854775808 ≤ n ∧ n ≤ 9223372036854775807) (_ : -9223372036854775808 ≤ k ∧ k ≤ 9223372036854775807) : Calls Tryd.prog 5 #[.int .u32 (t : Int), .int .i64 n, .int .i64 k] w fun e w' => e = .returned (.bool true) ∧ Below w.heap.size w w' := by
  by_cases hout : n < 1 ∨ 15 < n ∨ k < 0 ∨ 15 < k
  · exact segfails_out w hT t ht n k hout
  · obtain ⟨nn, rfl⟩ : ∃ nn : Nat, n = nn := ⟨n.toNat, by omega⟩
    obtain ⟨kk, rfl⟩ : ∃ kk : Nat, k = kk := ⟨k.toNat, by omega⟩
    exact segfails_in w hT t ht nn kk (by omega) (by omega) (by omega)
end Go.Proofs.YtcmboifkfeeocaaDoor.scan
