/-
  A ROW OF BYTES THAT GROWS: what is appended to it (what a call made; a text), the world meanwhile; a text as bytes.
-/
import Derived.Test.YtodajceiadbpeaaDoorRcMay
import Derived.Lib.AppendStr
import Derived.Laws.IdiomStrings
import Derived.Laws.MakeOwn
namespace Go.Proofs.YtodajceiadbpeaaDoor.recd
open Go.RowKit Go.Proofs.YtodajceiadbpeaaDoor.num Go.Proofs.YtodajceiadbpeaaDoor.disk

/-- A row of one's own, made behind w0. -/
structure Grow (w0 : World) (l : List Int) (v : Value) (w : World) : Prop where
  own : Own w v l
  new_ : ∀ g, v.ownBlock = some g → w0.heap.size ≤ g
  below : Below w0.heap.size w0 w

theorem Grow.step {w0 w w1 w' : World} {v v' : Value} {l m : List Int} (h : Grow w0 l v w) (hb : Below w.heap.size w w1) (ho : Own w' v' (l ++ m)) (hg : w1.grownBy w' v.ownBlock) (hv : v'.ownBlock = v.ownBlock ∨ v'.ownBlock = some w1.heap.size) : Grow w0 (l ++ m) v' w' := by
  have b1 : Below w0.heap.size w0 w1 := h.below.trans (hb.mono h.below.size)
  refine ⟨ho, fun g hgg => ?_, b1.grown hg b1.size h.new_⟩
  rcases hv with hv | hv
  · exact h.new_ g (by rw [← hv]; exact hgg)
  · rw [hv] at hgg
    injection hgg with hgg
    have := b1.size
    omega
theorem Grow.later {w0 w w1 : World} {v : Value} {l : List Int} (h : Grow w0 l v w) (hb : Below w.heap.size w w1) : Grow w0 l v w1 := ⟨h.own.later hb, h.new_, h.below.trans (hb.mono h.below.size)⟩
/-- What a call made is appended. -/
theorem Grow.put {w0 w w1 : World} {v : Value} {l m : List Int} {e : Ending} (h : Grow w0 l v w) (n : Nat) (hn : m.length = n) (hm : Made w m e w1) (hs : l.length + n ≤ 1000000000) :
    ∃ a cap v' w', e = .returned (.slice a n cap) ∧ (Builtin.append_ #[26, 26] 26 #[v, .slice a n cap]).run Tryd.prog w1 = .ok v' w' ∧ Grow w0 (l ++ m) v' w' := by
  subst hn
  obtain ⟨u, rfl, o, nb, bl⟩ := hm
  obtain ⟨a, cap, rfl, _, _, hn, hl, _⟩ := o.form
  obtain ⟨v', w', hr, ho, hg, hv⟩ := append_row (h.own.later bl) a m.length cap m hl rfl (fun e => (hn e).2) hs
  exact ⟨a, cap, v', w', rfl, hr, h.step bl ho hg hv⟩
/-- Bytes that are there are appended. -/
theorem Grow.row {w0 w : World} {v : Value} {l m : List Int} (h : Grow w0 l v w) (a : Option Addr) (n cap : Nat) (hl : Leads w a m) (hn : m.length = n) (ha : a = none → cap = 0) (hs : l.length + n ≤ 1000000000) :
    ∃ v' w', (Builtin.append_ #[26, 26] 26 #[v, .slice a n cap]).run Tryd.prog w = .ok v' w' ∧ Grow w0 (l ++ m) v' w' := by
  obtain ⟨v', w', hr, ho, hg, hv⟩ := append_row h.own a n cap m hl hn ha hs
  exact ⟨v', w', hr, h.step (Below.refl _ _) ho hg hv⟩
theorem strCells_bs (s : ByteArray) : Lib.strCells s = u8s (bs s) := by simp [Lib.strCells, u8s, bs]
/-- A text is appended. -/
theorem Grow.text {w0 w : World} {v : Value} {l : List Int} (h : Grow w0 l v w) (s : ByteArray) (hs : l.length + s.size ≤ 1000000000) :
    ∃ v' w', (Builtin.append_ #[26, 9] 26 #[v, .string s]).run Tryd.prog w = .ok v' w' ∧ Grow w0 (l ++ bs s) v' w' := by
  obtain ⟨i0, hi, hz0, hz1, hz2⟩ := info_parts byte_info
  obtain ⟨v', w', h1, h2, h3, h4⟩ := Lib.run_append_own_string (P := Tryd.prog) w w0.heap.size 26 9 26 5 i0 Tryd.underlying26 Tryd.underlying9 hi hz0 hz1 hz2 v l.length (u8s l) ⟨h.own.1, by
      rcases h.own.2 with e | ⟨g, cap, cur, rfl, _, rest⟩
      · exact .inl e
      · exact .inr ⟨g, cap, cur, rfl, h.new_ g rfl, rest⟩⟩ s (by unfold maxLen; omega) (by omega) h.below.size
  refine ⟨v', w', h1, ⟨?_, fun g hg => (World.ownsRow.lt h2 g hg).1, h.below.grown h3 h.below.size h.new_⟩⟩
  unfold Own
  rw [List.length_append, bs_length, u8s_append, ← strCells_bs]
  refine ⟨h2.1, ?_⟩
  rcases h2.2 with e | ⟨g, cap, cur, e1, _, e3⟩
  · exact .inl e
  · exact .inr ⟨g, cap, cur, e1, Nat.zero_le _, e3⟩
/-- A row without bytes, with room. -/
theorem run_make_room (w : World) (c : Nat) (hc : c ≤ 1000000000) : ∃ w', (Instr.makeSlice 26 (.int .i64 0) (.int .i64 (c : Int))).run Tryd.prog w = .ok (.slice (some ⟨w.heap.size, 0, none⟩) 0 c) w' ∧ Grow w [] (.slice (some ⟨w.heap.size, 0, none⟩) 0 c) w' := by
  obtain ⟨i0, hi, hz0, hz1, hz2⟩ := info_parts byte_info
  obtain ⟨w', h1, h2, h3⟩ := run_make_own (P := Tryd.prog) w w.heap.size 26 5 i0 (.int .u8 0) 1 Tryd.underlying26 hi hz0 hz1 .i64 .i64 c (by rw [hz2]; omega) (by unfold maxLen; omega) (Nat.le_refl _)
  refine ⟨w', h1, ⟨?_, fun g hg => (World.ownsRow.lt h2 g hg).1, (Below.refl _ _).grown h3 (Nat.le_refl _) (fun k hk => by cases hk)⟩⟩
  refine ⟨h2.1, ?_⟩
  rcases h2.2 with e | ⟨g, cap, cur, e1, _, e3⟩
  · exact .inl e
  · exact .inr ⟨g, cap, cur, e1, Nat.zero_le _, e3⟩
/-- A text as bytes. -/
theorem run_bytes (w : World) (s : ByteArray) : ∃ cap w', (convert 9 26 (.string s)).run Tryd.prog w = .ok (.slice (some ⟨w.heap.size, 0, none⟩) s.size cap) w' ∧ Leads w' (some ⟨w.heap.size, 0, none⟩) (bs s) ∧ Below w.heap.size w w' ∧ s.size ≤ cap := by
  have hr := run_bytes_of_string (P := Tryd.prog) w 9 26 5 s Tryd.underlying9 Tryd.underlying26 Tryd.underlying5
  refine ⟨_, _, hr, ?_, ?_, grownCap_ge _ _ _ _⟩
  · refine .inr ⟨w.heap.size, 0, rfl, fun i hi => ?_⟩
    rw [bs_length] at hi
    rw [Nat.zero_add, cell_of_row _ w.heap.size i _ _ _ (heap_alloc_new w.drew _), bytesRow_at s _ i hi]
    have hi' : i < s.data.toList.length := by rw [Array.length_toList]; exact hi
    simp [bs, List.getD_eq_getElem?_getD, List.getElem?_map, List.getElem?_eq_getElem hi']
  · exact (below_draws (Below.refl _ _) 1).alloc (Nat.le_refl _) _

theorem sum_any (w : World) (hT : crc.Tab w) (a b : Option Addr) (n m ca cb : Nat) (l k : List Int) (hl : Leads w a l) (hk : Leads w b k) (bl : Byte l) (bk : Byte k) (hn : l.length = n) (hm : k.length = m) (hn2 : n ≤ 1000000000) (hm2 : m ≤ 1000000000) :
    Calls Tryd.prog 29 #[.slice a n ca, .slice b m cb] w fun e w' => e = .returned (.int .u32 (sumOf (l ++ k) : Nat)) ∧ w = w' := by
  subst hn hm
  have c1 := crc.sum_any a l ca w hT hl bl (by omega)
  have c2 := crc.more_any (crc.sum l) b k cb w hT hk bk (by omega)
  rw [crc.more_sum] at c2
  generalize l.length = n at c1 hn2
  generalize k.length = m at c2 hm2
  unfold sumOf
  generalize crc.sum l = s1 at c1 c2
  generalize crc.sum (l ++ k) = s2 at c2
  have C1 := Lib.hid c1
  have C2 := Lib.hid c2
  clear c1 c2
  go_enter Tryd.func29, Tryd.ntmps29
  go_wp2_with fail
  refine C1.out.mono ?_
  rintro e w' ⟨rfl, rfl⟩
  go_wp2_with fail
  refine C2.out.mono ?_
  rintro e w' ⟨rfl, rfl⟩
  go_wp2
  go_ret
  exact ⟨rfl, rfl⟩
end Go.Proofs.YtodajceiadbpeaaDoor.recd
