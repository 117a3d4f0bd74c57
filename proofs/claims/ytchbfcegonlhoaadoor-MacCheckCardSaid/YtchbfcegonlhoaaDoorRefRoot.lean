/-
  THE WALK OF the reference's "root": the digits behind the point of a root, by halving.
-/
import Derived.Test.YtchbfcegonlhoaaDoorRefBelow
namespace Go.Proofs.YtchbfcegonlhoaaDoor.sha
open Go.RowKit

theorem bis_end (n k f lo hi : Nat) (h : ¬ lo + 1 < hi) : bis n k f lo hi = lo := by
  cases f with
  | zero => rfl
  | succ f => rw [bis, if_neg h]
theorem bis_up (n k f lo hi : Nat) (h : lo + 1 < hi) (hf : fits n k ((lo + hi) / 2) = true) : bis n k (f + 1) lo hi = bis n k f ((lo + hi) / 2) hi := by
  rw [bis, if_pos h, if_pos hf]
theorem bis_down (n k f lo hi : Nat) (h : lo + 1 < hi) (hf : fits n k ((lo + hi) / 2) = false) : bis n k (f + 1) lo hi = bis n k f lo ((lo + hi) / 2) := by
  rw [bis, if_pos h, hf]; rfl

set_option maxHeartbeats 1000000 in
theorem root_any (n k : Nat) (hn : n < 65536) (hn0 : 0 < n) (hk : k ≤ 3) (w : World) :
    Calls Tryd.prog 22 #[.int .i64 (n : Int), .int .i64 (k : Int)] w fun e w' => e = .returned (.int .u32 ((rootN n k : Int) % 4294967296)) ∧ Below w.heap.size w w' := by
  have HN := Lib.hid hn
  have HN0 := Lib.hid hn0
  have HK := Lib.hid hk
  have hn2 : (n : Int) < 65536 := by omega
  clear hn hn0 hk
  go_enter Tryd.func22, Tryd.ntmps22
  go_wp2_with fail
  go_loopw [5, 6] (fun x y wr => ∃ (f lo hi : Nat), x = .int .u64 lo ∧ y = .int .u64 hi ∧ lo < hi ∧ (hi : Int) ≤ 137438953472 ∧ hi - lo ≤ 2 ^ f ∧ bis n k f lo hi = rootN n k ∧ Below w.heap.size w wr) (fun x y _ => (intOf y).toNat - (intOf x).toNat)
  case atStart => exact ⟨40, 0, 137438953472, rfl, rfl, by omega, by omega, by decide, rfl, Below.refl _ _⟩
  case round =>
    obtain ⟨f, lo, hi, rfl, rfl, hlh, hhi, hf, hb, hbel⟩ := hrel
    by_cases hgo : lo + 1 < hi
    · obtain ⟨f, rfl⟩ : ∃ g, f = g + 1 := by
        cases f with
        | zero => simp at hf; omega
        | succ g => exact ⟨g, rfl⟩
      rw [Nat.pow_succ] at hf
      obtain ⟨mid, hmid⟩ : ∃ mid, (lo + hi) / 2 = mid := ⟨_, rfl⟩
      have hmi : ((lo : Int) + (hi : Int)) / 2 = (mid : Int) := by omega
      have C := below_any mid n k (by omega) (by have := HN.out; omega) HN0.out HK.out wr
      have HC := Lib.hid C
      have hs := hbel.size
      have HB := Lib.hid hbel
      have HBI := Lib.hid hb
      have HMID := Lib.hid hmid
      by_cases hfit : fits n k mid = true
      · have hup := bis_up n k f lo hi hgo (by rw [hmid]; exact hfit)
        rw [hmid, hb] at hup
        have HUP := Lib.hid hup
        have HFIT := Lib.hid hfit
        have h1 : hi - mid ≤ 2 ^ f := by omega
        have h2 : lo < mid := by omega
        have h3 : mid < hi := by omega
        have hgi : (lo : Int) + 1 < (hi : Int) := by omega
        have H1 := Lib.hid h1
        have H2 := Lib.hid h2
        have H3 := Lib.hid h3
        have HGO := Lib.hid hgo
        have HLH := Lib.hid hlh
        clear hup hfit C hbel hb hmid hf h1 h2 h3 hgo hlh
        go_wp2_with fail
        refine HC.out.mono ?_
        rintro e w' ⟨rfl, hb'⟩
        have HB' := Lib.hid (HB.out.trans (hb'.mono hs))
        rw [HFIT.out]
        clear hb' HC
        go_wp2_with fail
        exact ⟨⟨f, mid, hi, rfl, rfl, H3.out, hhi, H1.out, HUP.out.symm, HB'.out⟩, by have := H2.out; have := H3.out; simp [intOf]; omega⟩
      · have hfit : fits n k mid = false := by simpa using hfit
        have hup := bis_down n k f lo hi hgo (by rw [hmid]; exact hfit)
        rw [hmid, hb] at hup
        have HUP := Lib.hid hup
        have HFIT := Lib.hid hfit
        have h1 : mid - lo ≤ 2 ^ f := by omega
        have h2 : lo < mid := by omega
        have h3 : mid < hi := by omega
        have hgi : (lo : Int) + 1 < (hi : Int) := by omega
        have H1 := Lib.hid h1
        have H2 := Lib.hid h2
        have H3 := Lib.hid h3
        have HGO := Lib.hid hgo
        have HLH := Lib.hid hlh
        clear hup hfit C hbel hb hmid hf h1 h2 h3 hgo hlh
        go_wp2_with fail
        refine HC.out.mono ?_
        rintro e w' ⟨rfl, hb'⟩
        have HB' := Lib.hid (HB.out.trans (hb'.mono hs))
        rw [HFIT.out]
        clear hb' HC
        go_wp2_with fail
        exact ⟨⟨f, lo, mid, rfl, rfl, H2.out, by have := H3.out; omega, H1.out, HUP.out.symm, HB'.out⟩, by have := H2.out; have := H3.out; simp [intOf]; omega⟩
    · have hroot := bis_end n k f lo hi hgo
      rw [hb] at hroot
      have HR := Lib.hid hroot
      have HB := Lib.hid hbel
      have hgi : (hi : Int) = (lo : Int) + 1 := by omega
      rw [hgi] at hhi ⊢
      clear hroot hb hbel hf hgo hlh hgi
      go_wp2_with fail
      go_ret
      exact ⟨by rw [HR.out]; rfl, HB.out⟩
end Go.Proofs.YtchbfcegonlhoaaDoor.sha
