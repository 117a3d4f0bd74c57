/-
  CONTRACTS of bytes.Clone and disk.laid.
-/
import Derived.Test.YtpbffjpghnijkaaDkOwn
namespace Go.Proofs.Ytpbffjpghnijkaa.disk
open Go.RowKit

theorem eql_nil (w : World) (a : Option Addr) (n c n' c' : Nat) : (binOp .eql 22 (.slice a n c) (.slice none n' c')).run Try.prog w = .ok (.bool a.isNone) w := Lib.run_eql_slice_nil w _ _ a n c n' c' Try.underlying22

theorem clone_nil (n c : Nat) (w : World) : Calls Try.prog 39 #[.slice none n c] w fun e w' => e = .returned (.slice none 0 0) ∧ w = w' := by
  have q := eql_nil
  go_enter Try.func39, Try.ntmps39
  go_wp2
  go_ret
  exact ⟨rfl, rfl⟩

set_option maxRecDepth 100000 in
set_option maxHeartbeats 1000000 in
theorem clone_some (ad : Addr) (n c : Nat) (l : List Int) (w : World) (hl : l.length = n) (hb : Leads w (some ad) l) (hn : n ≤ 100000000) :
    Calls Try.prog 39 #[.slice (some ad) n c] w fun e w' => ∃ v, e = .returned v ∧ Own w' v l ∧ (∀ g, v.ownBlock = some g → w.heap.size ≤ g) ∧ Below w.heap.size w w' := by
  have q := eql_nil
  have HB := Lib.hid hb
  have HL := Lib.hid hl
  clear hb hl
  have key : ∀ w1 : World, Below w.heap.size w w1 → ∃ v' w', (Builtin.append_ #[22, 22] 22 #[.slice (some ⟨w1.heap.size, 0, none⟩) 0 0, .slice (some ad) n c]).run Try.prog (w1.alloc (.cells #[] 5)) = .ok v' w' ∧
      Hid (Own w' v' l ∧ (∀ g, v'.ownBlock = some g → w1.heap.size ≤ g) ∧ Below w.heap.size w w') := by
    intro w1 h1
    have ho : Own (w1.alloc (.cells #[] 5)) (.slice (some ⟨w1.heap.size, 0, none⟩) 0 0) [] := World.ownsRow_made w1 #[] 0 (Nat.zero_le _) (Nat.zero_le _) rfl
    have h2 : Below w.heap.size w (w1.alloc (.cells #[] 5)) := h1.alloc h1.size _
    obtain ⟨v', w', r1, r2, r3, r4⟩ := append_row ho (some ad) n c l (HB.out.later h2) HL.out (fun e => by cases e) (by simp; omega)
    refine ⟨v', w', r1, show _ from ⟨by simpa using r2, ?_, h2.grown r3 ?_ ?_⟩⟩
    · intro g hg
      rcases r4 with r4 | r4
      · rw [r4] at hg; simp [Value.ownBlock] at hg; omega
      · rw [r4] at hg; simp at hg; omega
    · exact h2.size
    · intro k hk; simp [Value.ownBlock] at hk; have := h1.size; omega
  have K := Lib.hid key
  clear key hn
  go_enter Try.func39, Try.ntmps39
  obtain ⟨v', w', hrun, hk⟩ := K.out w (Below.refl _ _)
  have HR := Lib.hid hrun
  clear hrun
  go_wp2_with ((with_reducible show wpList _ _ _ _ _ _); refine wpList_append_run 22 (.tmp 5) (.tmp 6) (.slice (some ⟨w.heap.size, 0, none⟩) 0 0) (.slice (some ad) n c) rfl rfl rfl rfl rfl HR.out ?_)
  go_ret
  exact ⟨_, rfl, hk.out.1, hk.out.2.1, hk.out.2.2⟩

theorem byte_elem : Try.prog.elem 22 = 5 := by kernel_rfl
theorem byte_sizeOf (w : World) : (sizeOf 5).run Try.prog w = .ok 1 w := by kernel_rfl
theorem run_from (g off n cap p : Nat) (hp : p < n) (hn : n ≤ cap) (w : World) : (Instr.slice 22 (.slice (some ⟨g, off, none⟩) n cap) (some (.int .i64 (p : Int))) none none).run Try.prog w = .ok (.slice (some ⟨g, off + p, none⟩) (n - p) (cap - p)) w := by
  rw [run_slice_l w 22 _ n cap (by rw [byte_elem]; exact Try.underlying22) .i64 (p : Int) (by omega) (by omega), byte_elem, byte_sizeOf]
  have h1 : ¬ (cap = p) := by omega
  simp [Result.andThen, sliced, h1, Addr.add_mid]
/-- Where a slice begins that is cut at p. -/
def cutAt (a : Option Addr) (cap p : Nat) : Option Addr := if cap = p then a else a.map (·.add p)
theorem run_cut (a : Option Addr) (n cap p q : Nat) (hp : p ≤ q) (hq : q ≤ cap) (w : World) : (Instr.slice 22 (.slice a n cap) (some (.int .i64 (p : Int))) (some (.int .i64 (q : Int))) none).run Try.prog w = .ok (.slice (cutAt a cap p) (q - p) (cap - p)) w := by
  rw [run_slice_lh w 22 _ n cap (by rw [byte_elem]; exact Try.underlying22) .i64 .i64 (p : Int) (q : Int) (by omega) (by omega) (by omega), byte_elem, byte_sizeOf]
  simp [Result.andThen, sliced, cutAt]
theorem leads_cut {w : World} {a : Option Addr} {l : List Int} {cap : Nat} (h : Leads w a l) (p q : Nat) (hp : p ≤ q) (hq : q ≤ l.length) (hc : l.length ≤ cap) : Leads w (cutAt a cap p) ((l.drop p).take (q - p)) := by
  unfold cutAt
  by_cases hpq : p = q
  · subst hpq; rw [Nat.sub_self, List.take_zero]; exact Leads.nil _ _
  · rw [if_neg (by omega)]
    rcases h with rfl | ⟨b, off, rfl, hc'⟩
    · simp at hq; omega
    · simp only [Option.map_some, Addr.add_mid]
      exact Leads.take (Leads.drop (.inr ⟨b, off, rfl, hc'⟩) p) _

/-- What 'laid' answers with: the row behind it, and where it lies. -/
def LaidOut (w : World) (v : Value) (l : List Int) (e : Ending) (w' : World) : Prop :=
  ∃ v', e = .returned v' ∧ Own w' v' l ∧ w.grownBy w' v.ownBlock ∧ (v'.ownBlock = v.ownBlock ∨ ∃ g, v'.ownBlock = some g ∧ w.heap.size ≤ g)

theorem laid_none (v : Value) (l : List Int) (p : Int) (A : Option Addr) (mcap : Nat) (w : World) (hv : Own w v l) :
    Calls Try.prog 45 #[v, .int .i64 p, .slice A 0 mcap] w (LaidOut w v (laidL l 0 [])) := by
  obtain ⟨a, cap, rfl, _⟩ := hv.form
  have hL : LaidOut w (.slice a l.length cap) (laidL l 0 []) (.returned (.slice a l.length cap)) w := ⟨_, rfl, by rw [laidL_nil]; exact hv, World.grownBy.refl _ _, .inl rfl⟩
  have HL := Lib.hid hL
  clear hL hv
  go_enter Try.func45, Try.ntmps45
  go_wp2
  go_ret
  exact HL.out

set_option maxRecDepth 100000 in
set_option maxHeartbeats 1000000 in
theorem laid_within (v : Value) (l : List Int) (p : Nat) (A : Option Addr) (m mcap : Nat) (part : List Int) (w : World) (hv : Own w v l) (hp : Leads w A part) (hm : part.length = m) (h0 : 0 < m) (hfit : p + m ≤ l.length) (hl : l.length ≤ 100000000) :
    Calls Try.prog 45 #[v, .int .i64 (p : Int), .slice A m mcap] w (LaidOut w v (laidL l p part)) := by
  obtain ⟨a, cap, rfl, h1, h2, h3, h4, h5⟩ := hv.form
  obtain ⟨g, rfl, hg, hgl⟩ : ∃ g, a = some ⟨g, 0, none⟩ ∧ (Value.slice a l.length cap).ownBlock = some g ∧ g < w.heap.size := by
    rcases h5 with h5 | h5
    · have := (h3 h5).1; omega
    · exact h5
  obtain ⟨n, hn⟩ : ∃ n, l.length = n := ⟨_, rfl⟩
  rw [hn] at hv h1 hfit hl ⊢
  have hk : ∀ ty dCap, ∃ w', (Builtin.copy_ #[22, 22] ty #[.slice (some ⟨g, p, none⟩) (n - p) dCap, .slice A m mcap]).run Try.prog w = .ok (.int .i64 (m : Int)) w' ∧ Hid (LaidOut w (.slice (some ⟨g, 0, none⟩) n cap) (laidL l p part) (.returned (.slice (some ⟨g, 0, none⟩) n cap)) w') := by
    intro ty dCap
    obtain ⟨w', r1, r2, r3⟩ := run_copy_own hv hn p A m mcap part hp hm h0 hfit ty dCap
    refine ⟨w', r1, show _ from ⟨_, rfl, ?_, r3, .inl rfl⟩⟩
    have hne : part ≠ [] := by intro e; subst e; simp at hm; omega
    rw [laidL, if_neg hne, show p + part.length - l.length = 0 by omega, List.replicate_zero, List.append_nil]
    exact r2
  have K := Lib.hid hk
  have q := run_from g 0 n cap p (by omega) h1
  rw [Nat.zero_add] at q
  have c0 : ¬ m = 0 := by omega
  have c1 : ¬ (0 : Int) < (p : Int) + (m : Int) - (n : Int) := by omega
  have hpl : p ≤ 100000000 := by omega
  have hml : m ≤ 100000000 := by omega
  clear hk hv hp hm hn h2 h3 h4 h5 hg
  go_enter Try.func45, Try.ntmps45
  obtain ⟨w', hrun, hk⟩ := K.out 3 (cap - p)
  go_wp2
  go_ret
  exact hk.out

set_option maxRecDepth 100000 in
set_option maxHeartbeats 1000000 in
theorem laid_grown (v : Value) (l : List Int) (p : Nat) (A : Option Addr) (m mcap : Nat) (part : List Int) (w : World) (hv : Own w v l) (hp : Leads w A part) (hps : ∀ g, v.ownBlock = some g → Past g A part) (hm : part.length = m) (h0 : 0 < m) (hgr : l.length < p + m) (hl : l.length ≤ 100000000) (hpm : p + m ≤ 100000000) :
    Calls Try.prog 45 #[v, .int .i64 (p : Int), .slice A m mcap] w (LaidOut w v (laidL l p part)) := by
  obtain ⟨a, cap, e, h1, h2, h3, h4, h5⟩ := hv.form
  obtain ⟨n, hn⟩ : ∃ n, l.length = n := ⟨_, rfl⟩
  obtain ⟨v1, w1, r1, o1, g1, g, cap1, e1, hg1⟩ := append_zeros hv (p + m - n) (by omega) (by omega)
  rw [hn] at e e1 hgr hl
  have hN : n + (p + m - n) = p + m := by omega
  rw [hN] at e1
  subst e1
  have hlen : (l ++ List.replicate (p + m - n) 0).length = p + m := by rw [List.length_append, List.length_replicate, hn]; omega
  have hp1 : Leads w1 A part := hp.same fun b off eA hne => by
    obtain ⟨b', off', eA', hb⟩ := hp.lt hne
    rw [eA] at eA'
    obtain ⟨rfl, rfl⟩ : b = b' ∧ off = off' := by simpa using eA'
    refine g1.block b hb (fun hb' => ?_)
    rcases hps b hb'.symm with h | h
    · exact hne h
    · exact h b off eA rfl
  have hcap : p + m ≤ cap1 := (o1.cells hlen).elim fun cur h => h.2.2.1
  have hg2 : (Value.slice (some ⟨g, 0, none⟩) (p + m) cap1).ownBlock = some g := rfl
  have hk : ∃ w', (Builtin.copy_ #[22, 22] 3 #[.slice (some ⟨g, p, none⟩) (p + m - p) (cap1 - p), .slice A m mcap]).run Try.prog w1 = .ok (.int .i64 (m : Int)) w' ∧ Hid (LaidOut w v (laidL l p part) (.returned (.slice (some ⟨g, 0, none⟩) (p + m) cap1)) w') := by
    obtain ⟨w', r1', r2, r3⟩ := run_copy_own o1 hlen p A m mcap part hp1 hm h0 (by omega) 3 (cap1 - p)
    have hne : part ≠ [] := by intro e; subst e; simp at hm; omega
    refine ⟨w', r1', show _ from ⟨_, rfl, ?_, ?_, ?_⟩⟩
    · rw [laidL, if_neg hne, hm, hn]
      exact r2
    · rcases hg1 with hg1 | hg1
      · rw [hg1] at g1 ⊢
        exact g1.trans r3
      · refine ⟨r3.os.trans g1.os, r3.tape.trans g1.tape, r3.output.trans g1.output, Nat.le_trans g1.size r3.size, fun k hk hne' => ?_⟩
        rw [r3.block k (Nat.lt_of_lt_of_le hk g1.size) (fun e => by injection e with e; omega)]
        exact g1.block k hk hne'
    · rcases hg1 with hg1 | hg1
      · exact .inl (hg2.trans hg1.symm)
      · exact .inr ⟨g, hg2, by omega⟩
  obtain ⟨w2, r2, K⟩ := hk
  have q := run_from g 0 (p + m) cap1 p (by omega) hcap
  rw [Nat.zero_add] at q
  have c0 : ¬ m = 0 := by omega
  have c1 : (0 : Int) < (p : Int) + (m : Int) - (n : Int) := by omega
  have hpl : p ≤ 100000000 := by omega
  have hml : m ≤ 100000000 := by omega
  have ei : ((p + m - n : Nat) : Int) = (p : Int) + (m : Int) - (n : Int) := by omega
  rw [ei] at r1
  rw [Nat.add_sub_cancel_left] at r2 q
  subst e
  have R1 := Lib.hid r1
  clear r1 hv hp hm hn h2 h3 h4 h5 o1 g1 hg1 hlen hp1 hg2 hps ei hN
  go_enter Try.func45, Try.ntmps45
  go_wp2_with ((with_reducible show wpList _ _ _ _ _ _); refine wpList_append_run 3 (.tmp 21) (.tmp 22) _ _ rfl rfl rfl rfl rfl R1.out ?_)
  go_ret
  exact K.out

/-- 'laid', whatever its bytes. -/
theorem laid_any (v : Value) (l : List Int) (p : Nat) (A : Option Addr) (m mcap : Nat) (part : List Int) (w : World) (hv : Own w v l) (hp : Leads w A part) (hps : ∀ g, v.ownBlock = some g → Past g A part) (hm : part.length = m) (hl : l.length ≤ 100000000) (hpm : p + m ≤ 100000000) :
    Calls Try.prog 45 #[v, .int .i64 (p : Int), .slice A m mcap] w (LaidOut w v (laidL l p part)) := by
  by_cases h0 : m = 0
  · subst h0
    obtain rfl : part = [] := List.eq_nil_of_length_eq_zero hm
    have h := laid_none v l p A mcap w hv
    rw [laidL_nil] at h ⊢
    exact h
  · by_cases h1 : p + m ≤ l.length
    · exact laid_within v l p A m mcap part w hv hp hm (by omega) h1 hl
    · exact laid_grown v l p A m mcap part w hv hp hps hm (by omega) (by omega) hl hpm
end Go.Proofs.Ytpbffjpghnijkaa.disk
