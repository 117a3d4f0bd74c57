/-
  ROWS OF BYTES OF THE DISK's OWN: made, grown by noughts, copied into, cloned.
-/
import Derived.Test.YtpbffjpghnijkaaRows
import Derived.Test.YtpbffjpghnijkaaDkBytes
import Derived.Maps.AppendAt
import Derived.OwnWalk
import Derived.Laws.MakeOwn
import Derived.Laws.CopyOwn
import Derived.Lib.AppendZerosOnto
import Derived.WalkKit
import Derived.WalkSpells
namespace Go.Proofs.Ytpbffjpghnijkaa.disk
open Go.RowKit

theorem byte_info : (Try.prog.info? 5).map (fun i => (i.zero, i.size, i.bytes)) = some (some (.int .u8 0), 1, 1) := by kernel_rfl
theorem byte_size : (Try.prog.info? 5).map (·.size) = some 1 := by kernel_rfl

/-- A row of bytes of one's own. -/
def Own (w : World) (v : Value) (l : List Int) : Prop := w.ownsRow 0 5 1 v l.length (u8s l)

theorem Own.none_ (w : World) : Own w (.slice none 0 0) [] := World.ownsRow_nil w 0 _ _
theorem Own.lt {w : World} {v : Value} {l : List Int} (h : Own w v l) {g : Nat} (hg : v.ownBlock = some g) : g < w.heap.size := (World.ownsRow.lt h g hg).2
theorem Own.form {w : World} {v : Value} {l : List Int} (h : Own w v l) :
    ∃ a cap, v = .slice a l.length cap ∧ l.length ≤ cap ∧ cap ≤ 9223372036854775807 ∧ (a = none → l.length = 0 ∧ cap = 0) ∧ Leads w a l ∧ (a = none ∨ ∃ g, a = some ⟨g, 0, none⟩ ∧ v.ownBlock = some g ∧ g < w.heap.size) := by
  have hc := fun g hg => World.ownsRow.cells h (g := g) hg
  have hlt := World.ownsRow.lt h
  rcases h.2 with ⟨rfl, h0⟩ | ⟨g, cap, cur, rfl, _, _, h1, h2, _, _⟩
  · have hl : l = [] := List.eq_nil_of_length_eq_zero h0
    subst hl
    exact ⟨none, 0, rfl, by simp, by omega, fun _ => ⟨rfl, rfl⟩, .inl rfl, .inl rfl⟩
  · unfold maxLen at h2
    refine ⟨_, cap, rfl, h1, by omega, (fun e => by cases e), .inr ⟨g, 0, rfl, fun i hi => ?_⟩, .inr ⟨g, rfl, rfl, (hlt g rfl).2⟩⟩
    have := hc g rfl i _ (u8s_at l hi)
    rwa [Addr.add_mid] at this
theorem Own.same {w w' : World} {v : Value} {l : List Int} (h : Own w v l) (e : ∀ g, v.ownBlock = some g → w'.heap[g]? = w.heap[g]?) : Own w' v l := row_same h e
theorem Own.turned {R : Nat → Prop} {w w' : World} {v : Value} {l : List Int} (h : Own w v l) (ht : Turn R w w') (hR : ∀ g, v.ownBlock = some g → ¬ R g) : Own w' v l :=
  h.same fun g hg => ht.block g (h.lt hg) (hR g hg)
theorem Own.later {w w' : World} {v : Value} {l : List Int} (h : Own w v l) (hb : Below w.heap.size w w') : Own w' v l := h.same fun g hg => hb.block g (h.lt hg)
theorem Own.cells {w : World} {g n cap : Nat} {l : List Int} (h : Own w (.slice (some ⟨g, 0, none⟩) n cap) l) (hl : l.length = n) : ∃ cur : Array Value, w.heap[g]? = some (.cells cur 5 (0, 0)) ∧ cur.size = cap ∧ n ≤ cap ∧ cap ≤ maxLen ∧ cur.toList.take n = u8s l := by
  rcases h.2 with ⟨e, _⟩ | ⟨g', cap', cur, e, _, hg, h1, h2, h3, h4⟩
  · cases e
  · injection e with e1 e2 e3
    injection e1 with e1
    injection e1 with e1
    subst e1
    subst e3
    subst hl
    exact ⟨cur, hg, by simpa using h3, h1, h2, by simpa using h4⟩
theorem Own.mk_ {w : World} {g cap : Nat} {l : List Int} {cur : Array Value} (hg : w.heap[g]? = some (.cells cur 5 (0, 0))) (hs : cur.size = cap) (hn : l.length ≤ cap) (hm : cap ≤ maxLen) (ht : cur.toList.take l.length = u8s l) : Own w (.slice (some ⟨g, 0, none⟩) l.length cap) l :=
  ⟨by rw [u8s_length, Nat.mul_one], .inr ⟨g, cap, cur, rfl, Nat.zero_le _, hg, hn, hm, by simpa using hs, by simpa using ht⟩⟩

/-- part laid over l from place at on, noughts between. -/
def laidL (l : List Int) (at_ : Nat) (part : List Int) : List Int :=
  if part = [] then l else splice (l ++ List.replicate (at_ + part.length - l.length) 0) at_ part
theorem laidL_nil (l : List Int) (at_ : Nat) : laidL l at_ [] = l := by simp [laidL]
theorem laidL_length (l : List Int) (at_ : Nat) (part : List Int) (hp : part ≠ []) : (laidL l at_ part).length = max l.length (at_ + part.length) := by
  rw [laidL, if_neg hp, length_splice]
  · simp; omega
  · simp; omega
theorem laidL_length_le (l : List Int) (at_ : Nat) (part : List Int) : (laidL l at_ part).length ≤ max l.length (at_ + part.length) := by
  by_cases hp : part = []
  · subst hp; rw [laidL_nil]; omega
  · rw [laidL_length _ _ _ hp]; omega
theorem Byte.splice {l m : List Int} (h : Byte l) (k : Byte m) (n : Nat) : Byte (splice l n m) := by
  unfold Go.splice
  exact (h.take n).append (k.append (h.drop _))
theorem Byte.laid {l m : List Int} (h : Byte l) (k : Byte m) (n : Nat) : Byte (laidL l n m) := by
  unfold laidL
  split
  · exact h
  · exact Byte.splice (h.append (Byte.zeros _)) k n

theorem zeros_list (n : Nat) : (Builtin.zeroCells #[Value.int .u8 0] n).toList = u8s (List.replicate n 0) := by
  apply List.ext_getElem
  · simp [Builtin.zeroCells, u8s]
  · intro i h1 h2
    simp [Builtin.zeroCells, u8s, Nat.mod_one]

theorem int_kind : Try.prog.underlying 3 = some (.int .i64) := Try.underlying3

theorem append_zeros {w : World} {v : Value} {l : List Int} (h : Own w v l) (n : Nat) (h0 : 0 < n) (hn : l.length + n ≤ 1000000000) :
    ∃ v' w', (Builtin.append_ #[22, 3] 22 #[v, .int .i64 (n : Int)]).run Try.prog w = .ok v' w' ∧ Own w' v' (l ++ List.replicate n 0) ∧ w.grownBy w' v.ownBlock ∧
      (∃ g cap, v' = .slice (some ⟨g, 0, none⟩) (l.length + n) cap ∧ (v.ownBlock = some g ∨ g = w.heap.size)) := by
  obtain ⟨i0, hi, hz0, hz1, hz2⟩ := info_parts byte_info
  have hzc : (Value.int .u8 0).cells = #[Value.int .u8 0] := rfl
  have hown := h
  unfold Own at hown
  have hlen : (u8s (l ++ List.replicate n 0)).length = l.length + n := by simp [u8s]
  -- what the growing arm leaves
  have grown : ∀ (old : Nat) (row : Option Nat),
      Own (w.drew.alloc (.cells ((u8s l).toArray ++ Builtin.zeroCells #[Value.int .u8 0] n ++ Builtin.zeroCells #[Value.int .u8 0] (grownCap w (l.length + n) old 5 - (l.length + n))) 5)) (.slice (some ⟨w.heap.size, 0, none⟩) (l.length + n) (grownCap w (l.length + n) old 5)) (l ++ List.replicate n 0) ∧
      w.grownBy (w.drew.alloc (.cells ((u8s l).toArray ++ Builtin.zeroCells #[Value.int .u8 0] n ++ Builtin.zeroCells #[Value.int .u8 0] (grownCap w (l.length + n) old 5 - (l.length + n))) 5)) row := by
    intro old row
    have hge := grownCap_ge w (l.length + n) old 5
    have hcm : grownCap w (l.length + n) old 5 ≤ maxLen := grownCap_le_maxLen w (l.length + n) old 5 (by unfold maxLen; omega)
    refine ⟨?_, ⟨rfl, rfl, rfl, by simp, fun k hk _ => heap_alloc_old w.drew _ hk⟩⟩
    unfold Own
    rw [List.length_append, List.length_replicate]
    refine ⟨by rw [hlen, Nat.mul_one], .inr ⟨w.heap.size, _, _, rfl, Nat.zero_le _, heap_alloc_new w.drew _, hge, hcm, ?_, ?_⟩⟩
    · simp only [Array.size_append, List.size_toArray, size_zeroCells, u8s_length, List.size_toArray, List.length_cons, List.length_nil]
      omega
    · simp only [Array.toList_append, zeros_list, Nat.mul_one]
      rw [show (u8s l).toArray.toList ++ u8s (List.replicate n 0) = u8s (l ++ List.replicate n 0) by simp [u8s], ← hlen]
      exact List.take_left
  rcases hown.2 with ⟨rfl, hl0⟩ | ⟨g, cap, cur, rfl, hbg, hg, hnc, hcm, hcs, htake⟩
  · obtain rfl : l = [] := List.eq_nil_of_length_eq_zero hl0
    have hr := Lib.run_append_nil_zeros (P := Try.prog) w 22 3 22 5 i0 (.int .u8 0) .i64 .i64 Try.underlying22 int_kind hi hz0 n h0 (by omega) (by simp at hn; omega) (by rw [hz2]; simp at hn; omega)
    have hgr := grown 0 (Value.ownBlock (.slice none 0 0))
    simp only [List.length_nil, Nat.zero_add] at hgr
    rw [hzc] at hr
    exact ⟨_, _, hr, by simpa [u8s] using hgr.1, by simpa [u8s] using hgr.2, w.heap.size, _, by rw [List.length_nil, Nat.zero_add], .inr rfl⟩
  · rw [Nat.mul_one] at hcs htake
    by_cases hroom : l.length + n ≤ cap
    · have hfit : l.length + (u8s (List.replicate n 0)).length ≤ cur.size := by rw [hcs, u8s_length, List.length_replicate]; exact hroom
      have hst := run_storeCells_at Try.prog g l.length 5 (u8s (List.replicate n 0)) 0 cur w hg (by simpa using hfit) (by intro v hv; simp [u8s] at hv; obtain ⟨_, rfl⟩ := hv; rfl)
      simp only [Nat.add_zero] at hst
      have hw : IntKind.i64.wrap (n : Int) = n := by rw [IntKind.wrap_i64]; omega
      have hneg : ¬ ((n : Int) < 0) := by omega
      have h48i : ¬ (281474976710656 < (n : Int)) := by omega
      have hn0 : n ≠ 0 := by omega
      have hr : (Builtin.append_ #[22, 3] 22 #[.slice (some ⟨g, 0, none⟩) l.length cap, .int .i64 (n : Int)]).run Try.prog w =
          .ok (.slice (some ⟨g, 0, none⟩) (l.length + n) cap) (w.setRow g (cur.toList.take l.length ++ u8s (List.replicate n 0) ++ cur.toList.drop (l.length + (u8s (List.replicate n 0)).length)).toArray) := by
        simp [Builtin.append_, run_underlying Try.underlying22, run_underlying int_kind, sizeOf, typeInfo, zeroValue, hi, hz0, hz1, hz2, asInt, asIntOf, hw, hneg, h48i, hroom, Addr.add_lit, hzc, hn0, zeros_list, hst]
      refine ⟨_, _, hr, ?_, ?_, g, cap, rfl, .inl rfl⟩
      · unfold Own
        rw [List.length_append, List.length_replicate]
        refine ⟨by rw [hlen, Nat.mul_one], .inr ⟨g, cap, _, rfl, hbg, setRow_heap w g cur _ _ _ hg, hroom, hcm, ?_, ?_⟩⟩
        · simp only [List.size_toArray, List.length_append, List.length_take, List.length_drop, Array.length_toList, u8s_length, List.length_replicate]
          omega
        · rw [htake, Nat.mul_one, show u8s l ++ u8s (List.replicate n 0) = u8s (l ++ List.replicate n 0) by simp [u8s], ← hlen]
          exact List.take_left
      · exact ⟨rfl, rfl, rfl, by simp, fun k _ hk => setRow_other w g k _ (fun e => hk (by simp [Value.ownBlock, e]))⟩
    · have holds : ∀ j u, (u8s l)[j]? = some u → w.cell? ((⟨g, 0, none⟩ : Addr).add j) = some u := World.ownsRow.cells hown (g := g) rfl
      have hfo := run_firstCells_some (P := Try.prog) w.drew i0.size l.length ⟨g, 0, none⟩ l.length cap (u8s l) (by rw [u8s_length, hz1, Nat.mul_one]) (by simpa using holds)
      have hr := Lib.run_append_grow_zeros (P := Try.prog) w 22 3 22 5 i0 (.int .u8 0) .i64 .i64 Try.underlying22 int_kind hi hz0 (some ⟨g, 0, none⟩) l.length cap (u8s l) hfo n h0 (by omega) (by omega) (by omega) (by rw [hz2]; omega) (growslice_fits (by omega) (by rw [hz2]; omega))
      have hgr := grown cap (Value.ownBlock (.slice (some ⟨g, 0, none⟩) l.length cap))
      rw [hzc] at hr
      exact ⟨_, _, hr, hgr.1, hgr.2, w.heap.size, _, rfl, .inr rfl⟩

/-- AT THE OPERATION: an append whose run is known. -/
theorem wpList_append_run {w w' : World} {v' : Value} {ops : Array Oper} {rest : List Oper} {o : Oper} {a : Act} {Q : Exit → Act → World → Prop} (T : TypeId) (s x : Operand) (v u : Value) (hgd : o.guard = none)
    (ho : o.op = .call { callee := .builtin .append, args := #[s, x], argTypes := #[22, T] }) (hty : o.type = 22) (hs : a.eval s = v) (hx : a.eval x = u)
    (hrun : (Builtin.append_ #[22, T] 22 #[v, u]).run Try.prog w = .ok v' w')
    (h : wpList Try.prog ops Q rest (a.put o.dst v') w') : wpList Try.prog ops Q (o :: rest) a w := by
  refine wpList_plain hgd fun K hK => ?_
  unfold Oper.wp execOp
  simp only [ho, hty, resolve, invoke, builtin, Sem.run_bind, Sem.run_pure, Result.andThen_ok, List.map_toArray, List.map_cons, List.map_nil, hs, hx, hrun]
  exact hK _ _ h

/-- Bytes appended to a row of one's own (a nil source too). -/
theorem append_row {w : World} {v : Value} {l : List Int} (h : Own w v l) (a : Option Addr) (m cap : Nat) (b : List Int) (hb : Leads w a b) (hm : b.length = m)
    (ha : a = none → cap = 0) (hn : l.length + m ≤ 1000000000) :
    ∃ v' w', (Builtin.append_ #[22, 22] 22 #[v, .slice a m cap]).run Try.prog w = .ok v' w' ∧ Own w' v' (l ++ b) ∧ w.grownBy w' v.ownBlock ∧ (v'.ownBlock = v.ownBlock ∨ v'.ownBlock = some w.heap.size) := by
  obtain ⟨i0, hi, hz0, hz1, hz2⟩ := info_parts byte_info
  cases a with
  | none =>
    have hb0 : b = [] := by
      rcases hb with h | ⟨_, _, e, _⟩
      · exact h
      · cases e
    subst hb0
    obtain rfl : m = 0 := by simpa using hm.symm
    obtain rfl := ha rfl
    exact ⟨v, w, run_append_owned_none w 0 _ _ _ i0 1 Try.underlying22 hi v l.length (u8s l) h, by simpa using h, World.grownBy.refl w _, .inl rfl⟩
  | some ad =>
    have hcells : ∀ j u, (u8s b)[j]? = some u → w.cell? (ad.add j) = some u := by
      intro j u hu
      rcases hb with rfl | ⟨g, off, he', hc⟩
      · simp [u8s] at hu
      · have hj : j < b.length := by
          have := (List.getElem?_eq_some_iff.1 hu).1
          rwa [u8s_length] at this
        rw [u8s_at b hj] at hu
        obtain rfl : ad = ⟨g, off, none⟩ := Option.some.inj he'
        rw [← hu, ← hc j hj, Addr.add_mid]
    obtain ⟨v', w', h1, h2, h3, _, h5⟩ := run_append_own_at (P := Try.prog) w 0 22 22 5 i0 (.int .u8 0) 1 1 Try.underlying22 hi hz0 hz1 hz2 rfl (by decide) v l.length (u8s l) h
      ad m cap (u8s b) (by rw [u8s_length, hm]; simp) hcells (by intro u hu; simp [u8s] at hu; obtain ⟨c, _, rfl⟩ := hu; rfl) (by unfold maxLen; omega) (by omega) (Nat.zero_le _)
    refine ⟨v', w', h1, ?_, h3, h5⟩
    unfold Own
    rw [List.length_append, hm]
    unfold u8s at h2 ⊢
    rw [List.map_append]; exact h2

theorem run_make_bytes (w : World) (n : Nat) (hn : n ≤ 1000000000) :
    ∃ w', (Instr.makeSlice 22 (.int .i64 (n : Int)) (.int .i64 (n : Int))).run Try.prog w = .ok (.slice (some ⟨w.heap.size, 0, none⟩) n n) w' ∧
      Own w' (.slice (some ⟨w.heap.size, 0, none⟩) n n) (List.replicate n 0) ∧ Below w.heap.size w w' := by
  obtain ⟨i0, hi, hz0, hz1, hz2⟩ := info_parts byte_info
  obtain ⟨w', h1, h2, h3⟩ := run_make_full (P := Try.prog) w w.heap.size 22 5 i0 (.int .u8 0) 1 Try.underlying22 hi hz0 hz1 .i64 .i64 n (by rw [hz2]; omega) (by unfold maxLen; omega) (Nat.le_refl _)
  refine ⟨w', h1, ?_, (Below.refl _ _).grown h3 (Nat.le_refl _) (fun k hk => by cases hk)⟩
  unfold Own
  rw [List.length_replicate]
  have e : u8s (List.replicate n 0) = (madeCells (Value.int .u8 0).cells (n * 1)).toList := by
    rw [show (Value.int .u8 0).cells = #[Value.int .u8 0] from rfl, toList_madeCells_one]
    simp [u8s]
  rw [e]
  refine ⟨h2.1, ?_⟩
  rcases h2.2 with h | ⟨g, cap, cur, e1, _, e3⟩
  · exact .inl h
  · exact .inr ⟨g, cap, cur, e1, Nat.zero_le _, e3⟩

/-- Bytes copied into a row of one's own. -/
theorem run_copy_own {w : World} {g n cap : Nat} {l : List Int} (h : Own w (.slice (some ⟨g, 0, none⟩) n cap) l) (hl : l.length = n) (at_ : Nat) (A : Option Addr) (m mcap : Nat) (part : List Int) (hp : Leads w A part) (hm : part.length = m) (hpos : 0 < m) (hfit : at_ + m ≤ n) (ty : TypeId) (dCap : Nat) :
    ∃ w', (Builtin.copy_ #[22, 22] ty #[.slice (some ⟨g, at_, none⟩) (n - at_) dCap, .slice A m mcap]).run Try.prog w = .ok (.int .i64 (m : Int)) w' ∧ Own w' (.slice (some ⟨g, 0, none⟩) n cap) (splice l at_ part) ∧ w.grownBy w' (some g) := by
  subst hm
  subst hl
  obtain ⟨b, o', rfl, hc⟩ : ∃ b off, A = some ⟨b, off, none⟩ ∧ ∀ i, i < part.length → w.cell? ⟨b, off + i, none⟩ = some (.int .u8 (part.getD i 0)) := by
    rcases hp with rfl | h
    · simp at hpos
    · exact h
  obtain ⟨cur, hg, hs, hn, hmx, ht⟩ := h.cells rfl
  have hsrc : ∀ j v, (u8s part)[j]? = some v → w.cell? ((⟨b, o', none⟩ : Addr).add j) = some v := by
    intro j v hv
    have hj : j < part.length := by have := (List.getElem?_eq_some_iff.1 hv).1; rwa [u8s_length] at this
    rw [u8s_at part hj] at hv
    rw [Addr.add_mid, hc j hj, hv]
  have hrun := run_copy_row (P := Try.prog) w 22 22 ty 5 g at_ (l.length - at_) dCap ⟨b, o', none⟩ part.length mcap cur 5 (u8s part) Try.underlying22 byte_size hg
    (by rw [u8s_length]; exact (Nat.min_eq_left (by omega)).symm) hsrc (by rw [u8s_length, hs]; omega) (u8s_one part)
  rw [u8s_length] at hrun
  refine ⟨_, hrun, ?_, ⟨rfl, rfl, rfl, by simp [World.setRow], fun k _ hk => setRow_other w g k _ (fun e => hk (by rw [e]))⟩⟩
  have hlen : (splice l at_ part).length = l.length := length_splice l at_ part hfit
  have k := Own.mk_ (w := w.setRow g (cur.toList.take at_ ++ (u8s part ++ cur.toList.drop (at_ + part.length))).toArray) (g := g) (cap := cap) (l := splice l at_ part) (setRow_heap w g _ _ 5 _ hg)
    (by simp [u8s_length]; omega) (by rw [hlen]; exact hn) hmx (by
      rw [hlen]
      have e1 : cur.toList = u8s l ++ cur.toList.drop l.length := by rw [← ht, List.take_append_drop]
      rw [List.toList_toArray]
      generalize cur.toList.drop l.length = junk at e1
      rw [e1, List.take_append_of_le_length (l₁ := u8s l) (by rw [u8s_length]; omega), List.drop_append_of_le_length (l₁ := u8s l) (by rw [u8s_length]; omega)]
      have e2 : (u8s l).take at_ ++ (u8s part ++ ((u8s l).drop (at_ + part.length) ++ junk)) = u8s (splice l at_ part) ++ junk := by
        simp [Go.splice, u8s]
      rw [e2]
      have e3 : (u8s (splice l at_ part)).length = l.length := by rw [u8s_length, hlen]
      rw [← e3]
      exact List.take_left)
  rw [hlen] at k
  rw [List.append_assoc]
  exact k
end Go.Proofs.Ytpbffjpghnijkaa.disk
