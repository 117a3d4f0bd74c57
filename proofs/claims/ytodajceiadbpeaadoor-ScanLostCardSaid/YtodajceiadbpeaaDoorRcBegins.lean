/-
  CONTRACT of record.begins.
-/
import Derived.Test.YtodajceiadbpeaaDoorRcEnc
import Derived.Deep.QuietTactic
import Derived.BigQuiet
namespace Go.Proofs.YtodajceiadbpeaaDoor.recd
open Go.RowKit Go.Proofs.YtodajceiadbpeaaDoor.num Go.Proofs.YtodajceiadbpeaaDoor.disk

theorem run_str {w : World} {a : Option Addr} {l : List Int} (h : Leads w a l) (hb : Byte l) (c : Nat) : (convert 26 9 (.slice a l.length c)).run Tryd.prog w = .ok (.string (str l)) w := by
  rcases h with rfl | ⟨b, off, rfl, hc⟩
  · cases a with
    | none =>
      rw [run_convert_bytes_string w _ _ 5 _ _ c Tryd.underlying26 Tryd.underlying5 Tryd.underlying9]
      simp [Conv.bytesToString, str]
      rfl
    | some a => exact run_convert_bytes_back w 26 9 5 a c [] Tryd.underlying26 Tryd.underlying5 Tryd.underlying9 fun j hj => by cases hj
  · have := run_convert_bytes_back w 26 9 5 ⟨b, off, none⟩ c (l.map fun c => UInt8.ofNat c.toNat) Tryd.underlying26 Tryd.underlying5 Tryd.underlying9 fun j hj => by
      rw [List.length_map] at hj
      have hc' := hc j hj
      have hbj := hb.at hj
      rw [Addr.add_mid, hc']
      rw [List.getD_eq_getElem?_getD, List.getElem?_eq_getElem hj, Option.getD_some] at hbj ⊢
      rw [List.getElem_map]
      have e : ((UInt8.ofNat l[j].toNat).toNat : Int) = l[j] := by
        rw [UInt8.toNat_ofNat']
        omega
      rw [e]
    rw [List.length_map] at this
    exact this

theorem str_beq {x : List Int} (hx : Byte x) (s : ByteArray) : ((str x).toList == s.toList) = decide (x = bs s) := by
  by_cases h : x = bs s
  · subst h; rw [str_bs, decide_eq_true rfl]; exact beq_self_eq_true _
  · rw [decide_eq_false h]
    refine Bool.eq_false_iff.2 fun e => h ?_
    have e' := eq_of_beq e
    rw [ByteArray.toList_eq, ByteArray.toList_eq] at e'
    rw [← bs_str hx]
    unfold bs
    rw [e']
theorem mark_of : ∀ k, k ≤ 2 → bs ((⟨#[83, 82]⟩ : ByteArray).extract 0 k) = ([83, 82] : List Int).take k
  | 0, _ => by decide +kernel
  | 1, _ => by decide +kernel
  | 2, _ => by decide +kernel
  | _ + 3, h => by omega

set_option maxHeartbeats 1000000 in
theorem begins_any (a : Option Addr) (n cap : Nat) (l : List Int) (w : World) (hl : Leads w a l) (hb : Byte l) (hn : l.length = n) (hc : n ≤ cap) :
    Calls Tryd.prog 26 #[.slice a n cap] w fun e w' => e = .returned (.bool (begB l)) ∧ ∃ q, w' = w.drewN q := by
  by_cases h2 : n ≤ 2
  · have h2I : (n : Int) ≤ 2 := by omega
    have hcv : ∀ q, (convert 26 9 (.slice a n cap)).run Tryd.prog (w.drewN q) = .ok (.string (str (l.take n))) (w.drewN q) := fun q => by
      have := run_str (w := w.drewN q) (a := a) (l := l.take n) (hl.take n) (hb.take n) cap
      rw [List.length_take, show min n l.length = n by omega] at this
      exact this
    have hmk : ((⟨#[83, 82]⟩ : ByteArray)).size = 2 := rfl
    have hbq := str_beq (hb.take n) ((⟨#[83, 82]⟩ : ByteArray).extract 0 n)
    rw [mark_of n (by omega)] at hbq
    have hbeg : begB l = (decide (l.take n = ([83, 82] : List Int).take n) && (decide (n ≤ 2) || isKindB (l.getD 2 0))) := by
      unfold begB
      rw [hn]
      congr 2
      rw [eq_iff_iff]
      rw [show min n 2 = n by omega, List.take_of_length_le (by omega : l.length ≤ 2), List.take_of_length_le (by omega : l.length ≤ n)]
    have HBEG := Lib.hid hbeg
    have h2c : n ≤ cap := by omega
    clear hbeg
    cases hq : decide (l.take n = ([83, 82] : List Int).take n)
    · rw [hq] at hbq
      clear hl
      go_enter Tryd.func26, Tryd.ntmps26
      go_wp2_with fail
      go_quiet (fail)
      go_wp2_with fail
      go_ret
      exact ⟨ret_bool (by rw [HBEG.out, hq]; rfl), _, rfl⟩
    · rw [hq] at hbq
      clear hl
      go_enter Tryd.func26, Tryd.ntmps26
      go_wp2_with fail
      go_quiet (fail)
      go_wp2_with fail
      go_ret
      exact ⟨ret_bool (by rw [HBEG.out, hq, decide_eq_true h2]; rfl), _, rfl⟩
  · have h2I : ¬ (n : Int) ≤ 2 := by omega
    have hcv : ∀ q, (convert 26 9 (.slice a 2 cap)).run Tryd.prog (w.drewN q) = .ok (.string (str (l.take 2))) (w.drewN q) := fun q => by
      have := run_str (w := w.drewN q) (a := a) (l := l.take 2) (hl.take 2) (hb.take 2) cap
      rw [List.length_take, show min 2 l.length = 2 by omega] at this
      exact this
    have hmk : ((⟨#[83, 82]⟩ : ByteArray)).size = 2 := rfl
    have hbq := str_beq (hb.take 2) ((⟨#[83, 82]⟩ : ByteArray).extract 0 2)
    rw [mark_of 2 (by omega)] at hbq
    have hbeg : begB l = (decide (l.take 2 = ([83, 82] : List Int).take 2) && (decide (n ≤ 2) || isKindB (l.getD 2 0))) := by
      unfold begB
      rw [hn]
      congr 2
      rw [eq_iff_iff]
      rw [show min n 2 = 2 by omega]
    have HBEG := Lib.hid hbeg
    have h2c : 2 ≤ cap := by omega
    clear hbeg
    cases hq : decide (l.take 2 = ([83, 82] : List Int).take 2)
    · rw [hq] at hbq
      clear hl
      go_enter Tryd.func26, Tryd.ntmps26
      go_wp2_with fail
      go_quiet (fail)
      go_wp2_with fail
      go_ret
      exact ⟨ret_bool (by rw [HBEG.out, hq]; rfl), _, rfl⟩
    · rw [hq] at hbq
      obtain ⟨g, off, rfl, hcl⟩ := hl.at_ (by omega)
      have ck := hcl 2 (by omega)
      have ckq : ∀ q, (w.drewN q).cell? ⟨g, off + 2, none⟩ = some (.int .u8 (l.getD 2 0)) := fun q => ck
      have hby := hb.at (i := 2) (by omega)
      have h2n : 2 < n := by omega
      obtain ⟨c, hcc⟩ : ∃ c, l.getD 2 0 = c := ⟨_, rfl⟩
      rw [hcc] at ckq hby HBEG
      clear ck hcl hcc hl
      go_enter Tryd.func26, Tryd.ntmps26
      go_wp2_with fail
      go_quiet (fail)
      go_wp2_with (go_at_call 32; refine (isKind_any c _).mono ?_; rintro e w' ⟨rfl, rfl⟩)
      go_ret
      exact ⟨ret_bool (by rw [HBEG.out, hq, decide_eq_false h2, decide_eq_false (by omega)]; rfl), _, rfl⟩
end Go.Proofs.YtodajceiadbpeaaDoor.recd
