/-
  TWO SEGMENTS ON TWO DISKS AT ONCE: a disk, and what a crash left of it; both are read in turn (P8.1).
-/
import Derived.Test.YtdonblfidohncaaGreatDoorSgLaw
import Derived.Test.YtdonblfidohncaaGreatDoorSgSame
namespace Go.Proofs.YtdonblfidohncaaGreatDoor.scan
open Go.RowKit Go.Proofs.YtdonblfidohncaaGreatDoor.disk Go.Proofs.YtdonblfidohncaaGreatDoor.recd Go.Proofs.YtdonblfidohncaaGreatDoor.seg
set_option linter.unusedVariables false

/-- A disk whose blocks have not turned, the law's own being others now. -/
theorem held_stay {W : World} {X Y : Nat → Prop} {w w' : World} {p n : Nat} {S : St} (h : Held W X w p S n) (hs : w.heap.size ≤ w'.heap.size) (hk : ∀ k, Free W.heap.size X w k → w'.heap[k]? = w.heap[k]?) (hb : Below W.heap.size W w') (hY : ∀ k, Y k → k < w'.heap.size) (hd : ∀ k, Free W.heap.size X w k → ¬ Y k) : Held W Y w' p S n := by
  obtain ⟨C, mn, ms, wv, h'⟩ := h.disk
  exact ⟨⟨C, mn, ms, wv, (h'.same hs fun x k hc => hk k (h'.low x k hc).1).mono fun k hkl hr => ⟨hr.1, hkl, hd k hr⟩⟩, hb, hY⟩
/-- The disk that a crash made, as the law holds it. -/
theorem held_wide {W wc : World} {X : Nat → Prop} {w : World} {p n : Nat} {S : St} (h : Held wc X w p S n) (hb : Below W.heap.size W wc) : Held W (fun k => X k ∨ k < wc.heap.size) w p S n := by
  have hz := hb.size
  have hz2 := h.below.size
  refine ⟨h.disk.mono fun k hk hr => ⟨by have := hr.1; omega, hk, fun e => ?_⟩, hb.trans (h.below.mono hz), fun k hk => ?_⟩
  · rcases e with e | e
    · exact hr.2.2 e
    · have := hr.1; omega
  · rcases hk with hk | hk
    · exact h.user k hk
    · omega

/-- Both at once; cz: how far the heap went when the second was made. -/
structure Both (W : World) (cz : Nat) (wr : World) (p1 s1 : Nat) (S1 : St) (k1 : Int) (n1 : Nat) (p2 s2 : Nat) (S2 : St) (k2 : Int) (n2 : Nat) (nm : ByteArray) (t : Nat) (atv : Value) (places : List Nat) (E : Nat → Prop) : Prop where
  d1 : Held W (fun k => (k = s1 ∨ atv.ownBlock = some k) ∨ (cz ≤ k ∧ k < wr.heap.size)) wr p1 (readSt S1 k1) n1
  d2 : Held W (fun k => (k = s2 ∨ E k) ∨ k < cz) wr p2 (readSt S2 k2) n2
  g1 : SegAt wr s1 p1 nm t true
  g2 : SegAt wr s2 p2 nm t true
  at_ : OwnS fInt wr atv places
  lo : s1 < cz ∧ (∀ g, atv.ownBlock = some g → g < cz) ∧ cz ≤ s2 ∧ cz ≤ wr.heap.size ∧ W.heap.size ≤ cz ∧ (∀ k, E k → cz ≤ k)
section
variable {W : World} {cz : Nat} {wr w' : World} {p1 s1 : Nat} {S1 : St} {k1 : Int} {n1 : Nat} {p2 s2 : Nat} {S2 : St} {k2 : Int} {n2 : Nat} {nm : ByteArray} {t : Nat} {atv : Value} {places : List Nat} {E E' : Nat → Prop}
theorem Both.later (h : Both W cz wr p1 s1 S1 k1 n1 p2 s2 S2 k2 n2 nm t atv places E) (hb : Below wr.heap.size wr w') : Both W cz w' p1 s1 S1 k1 n1 p2 s2 S2 k2 n2 nm t atv places E := by
  obtain ⟨l1, l2, l3, l4, l5, l6⟩ := h.lo
  refine ⟨held_stay h.d1 hb.size (fun k hk => hb.block k hk.2.1) (h.d1.below.trans (hb.mono h.d1.below.size)) (fun k hk => ?_) (fun k hk e => ?_), h.d2.later hb, h.g1.later hb, h.g2.later hb, h.at_.later hb, l1, l2, l3, Nat.le_trans l4 hb.size, l5, l6⟩
  · rcases hk with hk | hk
    · exact Nat.lt_of_lt_of_le (h.d1.user k (.inl hk)) hb.size
    · exact hk.2
  · rcases e with e | e
    · exact hk.2.2 (.inl e)
    · exact hk.2.2 (.inr ⟨e.1, hk.2.1⟩)
theorem Both.fewer (h : Both W cz wr p1 s1 S1 k1 n1 p2 s2 S2 k2 n2 nm t atv places E) (hE : ∀ k, E' k → E k) : Both W cz wr p1 s1 S1 k1 n1 p2 s2 S2 k2 n2 nm t atv places E' := by
  obtain ⟨l1, l2, l3, l4, l5, l6⟩ := h.lo
  refine ⟨h.d1, h.d2.fewer fun k hk => ?_, h.g1, h.g2, h.at_, l1, l2, l3, l4, l5, fun k hk => l6 k (hE k hk)⟩
  rcases hk with (hk | hk) | hk
  · exact .inl (.inl hk)
  · exact .inl (.inr (hE k hk))
  · exact .inr hk
/-- New blocks of the law's own. -/
theorem Both.mine (h : Both W cz wr p1 s1 S1 k1 n1 p2 s2 S2 k2 n2 nm t atv places E) (hb : Below wr.heap.size wr w') : Both W cz w' p1 s1 S1 k1 n1 p2 s2 S2 k2 n2 nm t atv places (fun k => E k ∨ (wr.heap.size ≤ k ∧ k < w'.heap.size)) := by
  have h' := h.later hb
  obtain ⟨l1, l2, l3, l4, l5, l6⟩ := h.lo
  refine ⟨h'.d1, (h.d2.mine hb).fewer fun k hk => ?_, h'.g1, h'.g2, h'.at_, l1, l2, l3, Nat.le_trans l4 hb.size, l5, fun k hk => ?_⟩
  · rcases hk with (hk | hk | hk) | hk
    · exact .inl (.inl (.inl hk))
    · exact .inl (.inl (.inr hk))
    · exact .inr hk
    · exact .inl (.inr hk)
  · rcases hk with hk | hk
    · exact l6 k hk
    · omega
theorem Both.read1 (h : Both W cz wr p1 s1 S1 k1 n1 p2 s2 S2 k2 n2 nm t atv places E) (hT : Tabs W) (hn : n1 ≤ 1000000) (b : Nat) (hb : dlook nm.data.toList S1.now = some b) (L : List Int) (hL : (S1.file b).now = L) (k : Nat) (hk : k < L.length) :
    Calls Tryz.prog 27 #[.pointer (some ⟨s1, 0, none⟩), .int .i64 (k : Int)] wr fun e w' => e = .returned (.tuple #[(readS t L (k : Int)).1.val, .int .i64 (readS t L (k : Int)).2]) ∧ ∃ k1', Both W cz w' p1 s1 S1 k1' (n1 + 1) p2 s2 S2 k2 n2 nm t atv places E ∧ (∀ k, E k → w'.heap[k]? = wr.heap[k]?) := by
  obtain ⟨l1, l2, l3, l4, l5, l6⟩ := h.lo
  subst hL
  refine (segread_more wr p1 (readSt S1 k1) n1 h.d1 (by omega) hT.crc s1 nm t true h.g1 (.inl (.inl rfl)) b hb k hk).mono ?_
  rintro e w' ⟨h1, h2, h3, h4⟩
  refine ⟨h1, k1 + ((min 1039 ((S1.file b).now.length - k) : Nat) : Int), ?_, fun j hj => h3 j (.inr ⟨l6 j hj, h.d2.user j (.inl (.inr hj))⟩)⟩
  have e1 : ({ readSt S1 k1 with reads := (readSt S1 k1).reads + ((min 1039 (((readSt S1 k1).file b).now.length - k) : Nat) : Int) } : St) = readSt S1 (k1 + ((min 1039 ((S1.file b).now.length - k) : Nat) : Int)) := readSt_add S1 k1 _
  rw [e1] at h2
  refine ⟨h2.fewer fun j hj => ?_, held_stay h.d2 h4 (fun j hj => h3 j (.inr ⟨?_, hj.2.1⟩)) h2.below (fun j hj => ?_) (fun j hj e => hj.2.2 e), h.g1.kept (.inl (.inl rfl)) h3, h.g2.kept (.inr ⟨l3, ?_⟩) h3, h.at_.same fun g hg => h3 g (.inl (.inr hg)), l1, l2, l3, Nat.le_trans l4 h4, l5, l6⟩
  · rcases hj with hj | hj
    · exact .inl (.inl hj)
    · by_cases hz : j < wr.heap.size
      · exact .inl (.inr ⟨hj.1, hz⟩)
      · exact .inr ⟨by omega, hj.2⟩
  · by_cases hz : j < cz
    · exact absurd (.inr hz) hj.2.2
    · omega
  · exact Nat.lt_of_lt_of_le (h.d2.user j hj) h4
  · exact h.d2.user s2 (.inl (.inl rfl))
theorem Both.read2 (h : Both W cz wr p1 s1 S1 k1 n1 p2 s2 S2 k2 n2 nm t atv places E) (hT : Tabs W) (hn : n2 ≤ 1000000) (b : Nat) (hb : dlook nm.data.toList S2.now = some b) (L : List Int) (hL : (S2.file b).now = L) (k : Nat) (hk : k < L.length) :
    Calls Tryz.prog 27 #[.pointer (some ⟨s2, 0, none⟩), .int .i64 (k : Int)] wr fun e w' => e = .returned (.tuple #[(readS t L (k : Int)).1.val, .int .i64 (readS t L (k : Int)).2]) ∧ ∃ k2', Both W cz w' p1 s1 S1 k1 n1 p2 s2 S2 k2' (n2 + 1) nm t atv places E ∧ (∀ k, E k → w'.heap[k]? = wr.heap[k]?) := by
  obtain ⟨l1, l2, l3, l4, l5, l6⟩ := h.lo
  subst hL
  refine (segread_more wr p2 (readSt S2 k2) n2 h.d2 (by omega) hT.crc s2 nm t true h.g2 (.inl (.inl rfl)) b hb k hk).mono ?_
  rintro e w' ⟨h1, h2, h3, h4⟩
  refine ⟨h1, k2 + ((min 1039 ((S2.file b).now.length - k) : Nat) : Int), ?_, fun j hj => h3 j (.inl (.inr hj))⟩
  have e1 : ({ readSt S2 k2 with reads := (readSt S2 k2).reads + ((min 1039 (((readSt S2 k2).file b).now.length - k) : Nat) : Int) } : St) = readSt S2 (k2 + ((min 1039 ((S2.file b).now.length - k) : Nat) : Int)) := readSt_add S2 k2 _
  rw [e1] at h2
  refine ⟨held_stay h.d1 h4 (fun j hj => h3 j (.inr ?_)) h2.below (fun j hj => ?_) (fun j hj e => ?_), h2.fewer fun j hj => .inl hj, h.g1.kept (.inr l1) h3, h.g2.kept (.inl (.inl rfl)) h3, h.at_.same fun g hg => h3 g (.inr (l2 g hg)), l1, l2, l3, Nat.le_trans l4 h4, l5, l6⟩
  · by_cases hz : j < cz
    · exact hz
    · exact absurd (.inr ⟨by omega, hj.2.1⟩) hj.2.2
  · rcases hj with hj | hj
    · exact Nat.lt_of_lt_of_le (h.d1.user j (.inl hj)) h4
    · exact hj.2
  · rcases e with e | e
    · exact hj.2.2 (.inl e)
    · exact hj.2.2 (.inr ⟨e.1, hj.2.1⟩)
end

/-! rows to which many elements are appended at once -/
theorem OwnS.puts {α : Type} {F : Form α} {w : World} {v : Value} {l : List α} (h : OwnS F w v l) (g m cap : Nat) (xs : List α) (hx : OwnS F w (.slice (some ⟨g, 0, none⟩) m cap) xs) (hm : xs.length = m) (hn : l.length ≤ 1000000) (hn2 : m ≤ 1000000) :
    ∃ v' w', (Builtin.append_ #[F.s, F.s] F.s #[v, .slice (some ⟨g, 0, none⟩) m cap]).run Tryz.prog w = .ok v' w' ∧ OwnS F w' v' (l ++ xs) ∧ w.grownBy w' v.ownBlock ∧ (v'.ownBlock = v.ownBlock ∨ v'.ownBlock = some w.heap.size) := by
  obtain ⟨i0, hi, hz0, hz1, hz2⟩ := info_parts F.info
  have hs := F.small
  obtain ⟨v', w', h1, h2, h3, _, h5⟩ := run_append_own_at (P := Tryz.prog) w 0 F.s F.s F.e i0 F.zero F.sz F.by_ F.under hi hz0 hz1 hz2 F.zeros F.some_ v l.length (flat F l) h
    ⟨g, 0, none⟩ m cap (flat F xs) (by rw [flat_length, hm]) (fun j u hu => by
      have := World.ownsRow.cells hx (g := g) rfl j u hu
      exact this) (fun u hu => by
      unfold flat at hu
      obtain ⟨x, _, hx2⟩ := List.mem_flatMap.1 hu
      exact F.one x u hx2) (by unfold maxLen; omega) (by
      have : (l.length + m) * F.by_ ≤ 2000000 * 1000 := Nat.mul_le_mul (by omega) hs
      omega) (Nat.zero_le _)
  refine ⟨v', w', h1, ?_, h3, h5⟩
  unfold OwnS
  rw [flat_append, List.length_append, hm]
  exact h2
end Go.Proofs.YtdonblfidohncaaGreatDoor.scan
