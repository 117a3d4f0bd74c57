/-
  PLAIN MATHEMATICS OF A SCAN: what is found is whole records, at rising places, none over another one. No program stands in it.
-/
import Derived.Test.YtodajceiadbpeaaDoorScMath
import Derived.Test.YtodajceiadbpeaaDoorRcRMath
namespace Go.Proofs.YtodajceiadbpeaaDoor.scan
open Go.Proofs.YtodajceiadbpeaaDoor.recd Go.Proofs.YtodajceiadbpeaaDoor.disk Go.Proofs.YtodajceiadbpeaaDoor.num

theorem dec_full {l : List Int} (hb : Byte l) (h : (dec l).2.2 = 0) : mayB (dec l).1 = true ∧ encL (dec l).1 = l.take (dec l).2.1 ∧ (dec l).1.tenant < 4294967296 := by
  unfold dec at h ⊢
  split at h
  · cases h
  · rename_i h1
    rw [if_neg h1]
    split at h
    · cases h
    · rename_i h2
      rw [if_neg h2]
      split at h
      · cases h
      · rename_i h3
        rw [if_neg h3]
        split at h
        · cases h
        · rename_i h4
          rw [if_neg h4]
          split at h
          · cases h
          · rename_i h5
            rw [if_neg h5]
            have hn : 39 + lenOf l ≤ l.length := by omega
            have h1' : begB l = true := by simpa using h1
            have h3' : numB (headOf l) = true ∧ lenOf l ≤ 1000 := by
              constructor
              · cases hx : numB (headOf l)
                · exact absurd (.inl hx) h3
                · rfl
              · have : ¬ 1000 < lenOf l := fun e => h3 (.inr e)
                omega
            refine ⟨full_may h3'.1 h3'.2 hn, (full_enc hb h1' hn).2 (by simpa using h5), ?_⟩
            show val (sub l 3 7) < 4294967296
            exact val_lt 4 (sub l 3 7) (sub_length l 3 7 (by omega)) (sub_byte hb 3 7)

/-- Whole records, at rising places from p on, none over another one. -/
def Chain (b : List Int) : Nat → List Fd → Prop
  | _, [] => True
  | p, x :: l => p ≤ x.at_ ∧ x.at_ + (39 + x.r.body.size) ≤ b.length ∧ mayB x.r = true ∧ x.r.tenant < 4294967296 ∧ encL x.r = (b.drop x.at_).take (39 + x.r.body.size) ∧ Chain b (x.at_ + (39 + x.r.body.size)) l
theorem Chain.down {b : List Int} {p q : Nat} (h : p ≤ q) : ∀ {l : List Fd}, Chain b q l → Chain b p l
  | [], _ => trivial
  | _ :: _, hc => ⟨Nat.le_trans h hc.1, hc.2⟩
theorem allF_chain {b : List Int} (hb : Byte b) : ∀ (k p : Nat), Chain b p (allF b k p)
  | 0, _ => trivial
  | k + 1, p => by
    unfold allF
    split
    · rename_i hp
      split
      · rename_i hd
        have ok := dec_ok hd
        have fu := dec_full (hb.drop p) hd
        rw [List.length_drop] at ok
        have ih := allF_chain hb k (p + (dec (b.drop p)).2.1)
        have e := ok.2.2.1
        obtain ⟨m, hm⟩ : ∃ m, (dec (b.drop p)).2.1 = m := ⟨_, rfl⟩
        rw [hm] at e ih ok fu ⊢
        subst e
        exact ⟨Nat.le_refl _, by show p + (39 + (dec (b.drop p)).1.body.size) ≤ _; omega, fu.1, fu.2.2, fu.2.1, ih⟩
      · exact (allF_chain hb k (p + 1)).down (Nat.le_succ p)
    · trivial
theorem rest_chain {b : List Int} (hb : Byte b) (p : Nat) : Chain b p (rest b p) := allF_chain hb _ p
theorem Chain.at_ {b : List Int} {p q : Nat} {l : List Fd} (h : Chain b p (l.drop q)) (hq : q < l.length) : p ≤ l[q].at_ ∧ l[q].at_ + (39 + l[q].r.body.size) ≤ b.length ∧ mayB l[q].r = true ∧ l[q].r.tenant < 4294967296 ∧ encL l[q].r = (b.drop l[q].at_).take (39 + l[q].r.body.size) ∧ Chain b (l[q].at_ + (39 + l[q].r.body.size)) (l.drop (q + 1)) := by
  rw [List.drop_eq_getElem_cons hq] at h
  exact h
end Go.Proofs.YtodajceiadbpeaaDoor.scan
