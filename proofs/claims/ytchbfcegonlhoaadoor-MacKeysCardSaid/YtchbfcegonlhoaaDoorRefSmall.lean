/-
  THE WALKS OF the reference's small functions: 'turn', 'Get', 'Put'.
-/
import Derived.Test.YtchbfcegonlhoaaDoorShaRot
import Derived.Test.YtchbfcegonlhoaaDoorOwn
import Derived.Test.YtchbfcegonlhoaaDoorShaSum
namespace Go.Proofs.YtchbfcegonlhoaaDoor.sha
open Go.RowKit

theorem rturn_any (x : BitVec 32) (k : Nat) (hk : Turns k) (w : World) :
    Calls Tryd.prog 36 #[.int .u32 (W x), .int .i64 (k : Int)] w fun e w' => e = .returned (.int .u32 (W (rotr x k))) ∧ w = w' := by
  have hx := W_lt x
  rcases hk with rfl | rfl | rfl | rfl | rfl | rfl | rfl | rfl | rfl | rfl
  · have hr : bits .or .u32 (W x / 4) (W x * 1073741824 % 4294967296) = W (rotr x 2) := W_rot' x 2
    go_enter Tryd.func36, Tryd.ntmps36
    go_wp2
    go_ret
    exact ⟨rfl, rfl⟩
  · have hr : bits .or .u32 (W x / 64) (W x * 67108864 % 4294967296) = W (rotr x 6) := W_rot' x 6
    go_enter Tryd.func36, Tryd.ntmps36
    go_wp2
    go_ret
    exact ⟨rfl, rfl⟩
  · have hr : bits .or .u32 (W x / 128) (W x * 33554432 % 4294967296) = W (rotr x 7) := W_rot' x 7
    go_enter Tryd.func36, Tryd.ntmps36
    go_wp2
    go_ret
    exact ⟨rfl, rfl⟩
  · have hr : bits .or .u32 (W x / 2048) (W x * 2097152 % 4294967296) = W (rotr x 11) := W_rot' x 11
    go_enter Tryd.func36, Tryd.ntmps36
    go_wp2
    go_ret
    exact ⟨rfl, rfl⟩
  · have hr : bits .or .u32 (W x / 8192) (W x * 524288 % 4294967296) = W (rotr x 13) := W_rot' x 13
    go_enter Tryd.func36, Tryd.ntmps36
    go_wp2
    go_ret
    exact ⟨rfl, rfl⟩
  · have hr : bits .or .u32 (W x / 131072) (W x * 32768 % 4294967296) = W (rotr x 17) := W_rot' x 17
    go_enter Tryd.func36, Tryd.ntmps36
    go_wp2
    go_ret
    exact ⟨rfl, rfl⟩
  · have hr : bits .or .u32 (W x / 262144) (W x * 16384 % 4294967296) = W (rotr x 18) := W_rot' x 18
    go_enter Tryd.func36, Tryd.ntmps36
    go_wp2
    go_ret
    exact ⟨rfl, rfl⟩
  · have hr : bits .or .u32 (W x / 524288) (W x * 8192 % 4294967296) = W (rotr x 19) := W_rot' x 19
    go_enter Tryd.func36, Tryd.ntmps36
    go_wp2
    go_ret
    exact ⟨rfl, rfl⟩
  · have hr : bits .or .u32 (W x / 4194304) (W x * 1024 % 4294967296) = W (rotr x 22) := W_rot' x 22
    go_enter Tryd.func36, Tryd.ntmps36
    go_wp2
    go_ret
    exact ⟨rfl, rfl⟩
  · have hr : bits .or .u32 (W x / 33554432) (W x * 128 % 4294967296) = W (rotr x 25) := W_rot' x 25
    go_enter Tryd.func36, Tryd.ntmps36
    go_wp2
    go_ret
    exact ⟨rfl, rfl⟩
theorem rturn_at (x : BitVec 32) (k : Int) (hk : Turns k.toNat ∧ 0 ≤ k) (w : World) :
    Calls Tryd.prog 36 #[.int .u32 (W x), .int .i64 k] w fun e w' => e = .returned (.int .u32 (W (rotr x k.toNat))) ∧ w = w' := by
  have h := rturn_any x k.toNat hk.1 w
  rwa [Int.toNat_of_nonneg hk.2] at h
theorem rturn_quiet (x : BitVec 32) (k : Int) (hk : Turns k.toNat ∧ 0 ≤ k) (w : World) (n : Nat) :
    Calls Tryd.prog 36 #[.int .u32 (W x), .int .i64 k] (w.drewN n) fun e w'' => e = .returned (.int .u32 (W (rotr x k.toNat))) ∧ ∃ m, w'' = w.drewN m :=
  (rturn_at x k hk _).mono fun _ _ h => ⟨h.1, n, h.2.symm⟩
theorem rturn_quiet2 (x : BitVec 32) (k : Int) (hk : Turns k.toNat ∧ 0 ≤ k) (w : World) (a n : Nat) :
    Calls Tryd.prog 36 #[.int .u32 (W x), .int .i64 k] (w.drewN (a + n)) fun e w'' => e = .returned (.int .u32 (W (rotr x k.toNat))) ∧ ∃ m, w'' = w.drewN (a + m) :=
  (rturn_at x k hk _).mono fun _ _ h => ⟨h.1, n, h.2.symm⟩

def getN (l : List Int) : Int := l.foldl (fun n b => n * 256 + b) 0
theorem getN_snoc (l : List Int) (c : Int) : getN (l ++ [c]) = getN l * 256 + c := by simp [getN]
theorem getN_lt' : ∀ (n : Nat) (l : List Int), l.length = n → Byte l → 0 ≤ getN l ∧ getN l < 256 ^ n := by
  intro n
  induction n with
  | zero => intro l hl _; obtain rfl := List.eq_nil_of_length_eq_zero hl; simp [getN]
  | succ n ih =>
    intro l hl h
    obtain ⟨r, c, rfl⟩ : ∃ r c, l = r ++ [c] := by
      rcases List.eq_nil_or_concat l with rfl | ⟨r, c, rfl⟩
      · simp at hl
      · exact ⟨r, c, by simp⟩
    have hr := ih r (by simpa using hl) (fun d hd => h d (by simp [hd]))
    have hc := h c (by simp)
    rw [getN_snoc, Int.pow_succ]
    omega
theorem getN_lt (l : List Int) (h : Byte l) : 0 ≤ getN l ∧ getN l < 256 ^ l.length := getN_lt' l.length l rfl h
theorem getN_small (l : List Int) (h : Byte l) (hl : l.length ≤ 3) : 0 ≤ getN l ∧ getN l < 16777216 := by
  have := getN_lt l h
  rcases (show l.length = 0 ∨ l.length = 1 ∨ l.length = 2 ∨ l.length = 3 by omega) with e | e | e | e <;> rw [e] at this <;> simp at this <;> omega
theorem getN_word (a b c d : Int) : getN [a, b, c, d] = a * 16777216 + b * 65536 + c * 256 + d := by simp [getN]; omega

theorem get_any (a : Option Addr) (l : List Int) (cap : Nat) (w : World) (hL : Leads w a l) (hy : Byte l) (hl : l.length = 4) :
    Calls Tryd.prog 35 #[.slice a 4 cap] w fun e w' => e = .returned (.int .u64 (getN l)) ∧ w = w' := by
  obtain ⟨b, off, rfl, hc⟩ := hL.resolve_left (by intro h; rw [h] at hl; cases hl)
  have HC := Lib.hid hc
  have HY := Lib.hid hy
  have HL := Lib.hid hl
  clear hL hc hy hl
  go_enter Tryd.func35, Tryd.ntmps35
  go_wp2_with fail
  go_loop [3, 4] (fun s i => ∃ k : Nat, k ≤ 4 ∧ i = .int .i64 k ∧ s = .int .u64 (getN (l.take k))) (fun _ i => 4 - (intOf i).toNat)
  case atStart => exact ⟨0, by omega, rfl, rfl⟩
  case round =>
    obtain ⟨k, hk, rfl, rfl⟩ := hrel
    by_cases hlt : k < 4
    · have hcell := HC.out k (by rw [HL.out]; exact hlt)
      have hby := HY.out.at (i := k) (by rw [HL.out]; exact hlt)
      have hb := getN_small (l.take k) (HY.out.take k) (by rw [List.length_take]; omega)
      have hs : getN (l.take (k + 1)) = getN (l.take k) * 256 + l.getD k 0 := by
        rw [List.take_succ_eq_append_getElem (by rw [HL.out]; exact hlt), getN_snoc, List.getD_eq_getElem?_getD, List.getElem?_eq_getElem (by rw [HL.out]; exact hlt)]; rfl
      generalize l.getD k 0 = c at *
      generalize getN (l.take k) = s at *
      have HS := Lib.hid hs; clear hs
      go_wp2
      go_round
      case rel => exact ⟨k + 1, by omega, by go_num, by rw [HS.out]⟩
      case measure => simp [intOf]; omega
    · obtain rfl : k = 4 := by omega
      have he : l.take 4 = l := List.take_of_length_le (by rw [HL.out]; exact Nat.le_refl 4)
      rw [he]
      go_wp2
      go_ret
      exact ⟨rfl, rfl⟩

def putN (n : Int) (size : Nat) : List Int := (List.range size).map fun j => n / 2 ^ (8 * (size - 1 - j)) % 256
theorem putN_length (n : Int) (size : Nat) : (putN n size).length = size := by simp [putN]
theorem putN_at (n : Int) (size j : Nat) (h : j < size) : (putN n size).getD j 0 = n / 2 ^ (8 * (size - 1 - j)) % 256 := by
  simp [putN, List.getD_eq_getElem?_getD, h]
theorem putN_eight (n : Int) : putN n 8 = eight n := by simp [putN, eight, List.range, List.range.loop]
theorem putN_four (x : BitVec 32) : putN (W x) 4 = four x := by simp [putN, four, List.range, List.range.loop]
theorem putN_byte (n : Int) (size : Nat) : Byte (putN n size) := by
  intro c hc; simp [putN] at hc; obtain ⟨j, _, rfl⟩ := hc; omega

set_option maxHeartbeats 1000000 in
theorem put_any (n : Int) (size : Nat) (hs : size = 4 ∨ size = 8) (w : World) :
    Calls Tryd.prog 34 #[.int .u64 n, .int .i64 (size : Int)] w fun e w' => (∃ v, e = .returned v ∧ Own w' w.heap.size v (putN n size)) ∧ Below w.heap.size w w' := by
  have hs8 : size ≤ 8 := by omega
  have hs0 : 0 < size := by omega
  have HP := Lib.hid (putN_length n size)
  obtain ⟨i0, hi, hz0, hz1, hz2⟩ := info_parts byte_info
  have HI := Lib.hid hi
  have HZ0 := Lib.hid hz0
  have HZ1 := Lib.hid hz1
  have HZ2 := Lib.hid hz2
  clear hi hz0 hz1 hz2 hs
  go_enter Tryd.func34, Tryd.ntmps34
  go_wp2_with fail
  go_loopw [5, 6] (fun v i wr => ∃ k : Nat, k ≤ size ∧ i = .int .i64 ((size : Int) - 1 - k) ∧ Own wr w.heap.size v ((putN n size).take k) ∧ Below w.heap.size w wr) (fun _ i _ => (intOf i + 1).toNat)
  case atStart => exact ⟨0, by omega, by go_num, by rw [List.take_zero]; exact Own.none_ _ _, Below.refl _ _⟩
  case round =>
    obtain ⟨k, hk, rfl, hown, hbel⟩ := hrel
    by_cases hlt : k < size
    · have hat := putN_at n size k hlt
      have hlen : ((putN n size).take k).length = k := by rw [List.length_take, HP.out]; omega
      have htk : (putN n size).take (k + 1) = (putN n size).take k ++ [(putN n size).getD k 0] := by
        rw [List.take_succ_eq_append_getElem (by rw [HP.out]; exact hlt), List.getD_eq_getElem?_getD, List.getElem?_eq_getElem (by rw [HP.out]; exact hlt)]; rfl
      rw [hat] at htk
      have hown' : wr.ownsRow w.heap.size 5 1 u5 k (u8s ((putN n size).take k)) := by have h := hown; unfold Own at h; rwa [hlen] at h
      have HO := Lib.hid hown'
      have HBel := Lib.hid hbel
      have HLE := Lib.hid hlen
      clear hown'
      have HTK := Lib.hid htk
      clear hown hbel hlen htk hat
      go_wp2_with (first
        | (at_builtin; refine wpList_append_lies _ rfl (.tmp 19) (.tmp 26) 22 rfl w.heap.size 5 i0 (.int .u8 0) 1 1 Tryd.underlying22 HI.out HZ0.out HZ1.out HZ2.out rfl (by decide) u5 k (u8s ((putN n size).take k)) (by rfl) (by exact World.ownsRow.alloc (w := wr) HO.out _) ⟨wr.heap.size, 0, none⟩ 1 1 [.int .u8 (n / 2 ^ (8 * (size - 1 - k)) % 256)] (by rfl) rfl (by exact World.news_of_block (heap_alloc_new wr _)) (by intro u hu; simp at hu; subst hu; rfl) (by decide) (by unfold maxLen; omega) (by omega) (by have := HBel.out.size; simp; omega) (wr.heap.size + 1) (by simp) ?_; intro g2 cap2 w2 o2 g2' o2' l2'; have O2 := Lib.hid o2; have G2 := Lib.hid g2'; clear o2 g2' o2' l2')
        | fail)
      refine ⟨⟨k + 1, by omega, by go_num, ?_, ((HBel.out.alloc (by exact HBel.out.size) _).grown G2.out (by have := HBel.out.size; simp; omega) (fun g' hg' => (World.ownsRow.lt HO.out g' hg').1))⟩, by simp [intOf]; omega⟩
      have h := O2.out
      unfold Own
      rw [HTK.out, List.length_append, HLE.out]
      unfold u8s at h ⊢
      rw [List.map_append]
      exact h
    · obtain rfl : k = size := by omega
      have he : (putN n k).take k = putN n k := List.take_of_length_le (by rw [HP.out]; exact Nat.le_refl k)
      rw [he] at hown
      have HO := Lib.hid hown
      have HBel := Lib.hid hbel
      clear hown hbel he
      go_wp2
      go_ret
      exact ⟨⟨_, rfl, HO.out⟩, HBel.out⟩
end Go.Proofs.YtchbfcegonlhoaaDoor.sha
