/-
  THE WALK OF "(*sha.Hash).Write": what is written is taken in behind what was.
-/
import Derived.Test.YtchbfcegonlhoaaDoorShaMix
import Derived.Test.YtchbfcegonlhoaaDoorBytes
import Derived.Laws.CopyOwn
import Derived.RegionCalls
import Derived.Deep.RegionWith
namespace Go.Proofs.YtchbfcegonlhoaaDoor.sha
open Go.RowKit

/-- What of a text is yet to be mixed in. -/
def rest (t : List Int) : List Int := t.drop (64 * (t.length / 64))
theorem rest_length (t : List Int) : (rest t).length = t.length % 64 := by rw [rest, List.length_drop]; omega
def hashCells (s : St) (tail : List Int) (n : Nat) : List Value := u32s s.list ++ (u8s tail ++ [.int .u64 (n : Int)])
theorem hashCells_length (s : St) (tail : List Int) (n : Nat) (h : tail.length = 64) : (hashCells s tail n).length = 73 := by
  simp [hashCells, u32s_length, u8s_length, h, St.list]
theorem rest_grow (t cs : List Int) (h : t.length % 64 + cs.length < 64) : (t ++ cs).length / 64 = t.length / 64 ∧ rest (t ++ cs) = rest t ++ cs ∧ stAt (t ++ cs) ((t ++ cs).length / 64) = stAt t (t.length / 64) := by
  have e : (t ++ cs).length / 64 = t.length / 64 := by rw [List.length_append]; omega
  refine ⟨e, ?_, ?_⟩
  · rw [rest, e, List.drop_append_of_le_length (by omega)]; rfl
  · rw [e, stAt_append _ _ _ (by omega)]
theorem rest_full (t cs : List Int) (h : t.length % 64 + cs.length = 64) : (t ++ cs).length / 64 = t.length / 64 + 1 ∧ rest (t ++ cs) = [] ∧ stAt (t ++ cs) ((t ++ cs).length / 64) = mixed (stAt t (t.length / 64)) (rest t ++ cs) := by
  have e : (t ++ cs).length / 64 = t.length / 64 + 1 := by rw [List.length_append]; omega
  refine ⟨e, ?_, ?_⟩
  · rw [rest, e, List.drop_eq_nil_of_le]; rw [List.length_append]; omega
  · rw [e, stAt, stAt_append _ _ _ (by omega), List.drop_append_of_le_length (by omega), List.take_of_length_le (by rw [List.length_append, List.length_drop]; omega)]; rfl
theorem cells_tail (s : St) (tail cs : List Int) (n at_ : Nat) (hl : tail.length = 64) (h : at_ + cs.length ≤ 64) :
    (hashCells s tail n).take (8 + at_) ++ (u8s cs ++ (hashCells s tail n).drop (8 + at_ + cs.length)) = hashCells s (tail.take at_ ++ (cs ++ tail.drop (at_ + cs.length))) n := by
  have h8 : (u32s s.list).length = 8 := by rw [u32s_length]; rfl
  have h64 : (u8s tail).length = 64 := by rw [u8s_length, hl]
  unfold hashCells
  rw [List.take_append, List.drop_append, h8, List.take_of_length_le (by omega), List.drop_eq_nil_of_le (by omega), List.nil_append, show 8 + at_ - 8 = at_ by omega,
    show 8 + at_ + cs.length - 8 = at_ + cs.length by omega, List.take_append_of_le_length (by omega), List.drop_append_of_le_length (by omega)]
  simp [u8s, List.append_assoc]
theorem cells_size (s : St) (tail : List Int) (n m : Nat) (hl : tail.length = 64) : (hashCells s tail n).set 72 (.int .u64 (m : Int)) = hashCells s tail m := by
  have h8 : (u32s s.list).length = 8 := by rw [u32s_length]; rfl
  have h64 : (u8s tail).length = 64 := by rw [u8s_length, hl]
  unfold hashCells
  rw [List.set_append_right _ _ (by omega), h8, List.set_append_right _ _ (by omega), h64]; rfl
theorem cells_state (s s' : St) (tail : List Int) (n : Nat) : (hashCells s tail n).take 0 ++ (u32s s'.list ++ (hashCells s tail n).drop (0 + (u32s s'.list).length)) = hashCells s' tail n := by
  have h8 : (u32s s.list).length = 8 := by rw [u32s_length]; rfl
  have h8' : (u32s s'.list).length = 8 := by rw [u32s_length]; rfl
  unfold hashCells
  rw [List.take_zero, List.nil_append, h8', List.drop_append, h8]
  simp [h8]
theorem range_state {w : World} {g : Nat} {s : St} {tail : List Int} {n : Nat} (h : Whole w g 56 (hashCells s tail n)) : w.rangeAt g 0 (u32s s.list) := by
  have := h.range 0 8
  rw [List.drop_zero, hashCells, List.take_append_of_le_length (by rw [u32s_length]; exact Nat.le_refl 8), List.take_of_length_le (by rw [u32s_length]; exact Nat.le_refl 8)] at this
  exact this
theorem range_tail {w : World} {g : Nat} {s : St} {tail : List Int} {n : Nat} (hl : tail.length = 64) (h : Whole w g 56 (hashCells s tail n)) : w.rangeAt g 8 (u8s tail) := by
  have := h.range 8 64
  have h8 : (u32s s.list).length = 8 := by rw [u32s_length]; rfl
  rw [hashCells, List.drop_append, h8, List.drop_eq_nil_of_le (by omega), List.nil_append, show 8 - 8 = 0 from rfl, List.drop_zero, List.take_append_of_le_length (by rw [u8s_length]; omega), List.take_of_length_le (by rw [u8s_length]; omega)] at this
  exact this

/-- A copy of bytes into a block that is known whole. -/
theorem wpList_copy_into {P : Program} {ops : Array Oper} {rest : List Oper} {o : Oper} {a : Act} {w : World} {Q : Exit → Act → World → Prop} (hgd : o.guard = none) (d s : Operand) (dT sT : TypeId)
    (ho : o.op = .call { callee := .builtin .copy, args := #[d, s], argTypes := #[dT, sT] }) (elem : TypeId) (hu : P.underlying dT = some (.slice elem)) (hsz : (P.info? elem).map (·.size) = some 1)
    (g off dLen dCap : Nat) (A : Option Addr) (sLen sCap : Nat) (hd : a.eval d = .slice (some ⟨g, off, none⟩) dLen dCap) (hs : a.eval s = .slice A sLen sCap)
    (t : TypeId) (L : List Value) (hW : Whole w g t L) (cs : List Int) (m : Nat) (hm : cs.length = m) (hn : m = Nat.min sLen dLen) (hl : Leads w A cs) (hpos : 0 < cs.length) (hfit : off + cs.length ≤ L.length)
    (h : ∀ w2, Hid (Whole w2 g t (L.take off ++ (u8s cs ++ L.drop (off + cs.length)))) → Hid (w.grownBy w2 (some g)) → wpList P ops Q rest (a.put o.dst (.int .i64 (m : Int))) w2) : wpList P ops Q (o :: rest) a w := by
  subst hm
  obtain ⟨b, o', rfl, hc⟩ : ∃ b off, A = some ⟨b, off, none⟩ ∧ ∀ i, i < cs.length → w.cell? ⟨b, off + i, none⟩ = some (.int .u8 (cs.getD i 0)) := by
    rcases hl with rfl | h
    · simp at hpos
    · exact h
  have hsrc : ∀ j v, (u8s cs)[j]? = some v → w.cell? ((⟨b, o', none⟩ : Addr).add j) = some v := by
    intro j v hv
    have hj : j < cs.length := by have := (List.getElem?_eq_some_iff.1 hv).1; rwa [u8s_length] at this
    rw [u8s_at cs hj] at hv
    rw [Addr.add_mid, hc j hj, hv]
  have h' := h (w.setRow g (L.take off ++ (u8s cs ++ L.drop (off + cs.length))).toArray) (setRow_heap w g _ _ t _ hW) ⟨rfl, rfl, rfl, by simp, fun k _ hne => setRow_other w g k _ (fun e => hne (by rw [e]))⟩
  refine wpList_copy_own hgd d s dT sT ho elem hu hsz g off dLen dCap ⟨b, o', none⟩ sLen sCap hd hs L.toArray t hW (u8s cs) (by rw [u8s_length]; exact hn) hsrc (by rw [u8s_length]; simpa using hfit) (by intro v hv; simp [u8s] at hv; obtain ⟨x, _, rfl⟩ := hv; rfl) ?_
  simpa [u8s_length, goInt] using h'

/-- Block g is a Hash to which the text t was written. -/
def IsHash (w : World) (g : Nat) (t : List Int) : Prop :=
  ∃ junk, (rest t ++ junk).length = 64 ∧ Byte (rest t ++ junk) ∧ Whole w g 56 (hashCells (stAt t (t.length / 64)) (rest t ++ junk) t.length)

theorem size_at {w : World} {g : Nat} {s : St} {tail : List Int} {n : Nat} (hl : tail.length = 64) (h : Whole w g 56 (hashCells s tail n)) : w.cell? ⟨g, 72, none⟩ = some (.int .u64 (n : Int)) := by
  rw [h.at_, hashCells, List.getElem?_append_right (by simp [u32s_length, St.list]), List.getElem?_append_right (by simp [u32s_length, u8s_length, hl, St.list])]
  simp [u32s_length, u8s_length, hl, St.list]

theorem filled_any (g n : Nat) (hn : n ≤ 1000000000) (w : World) (hc : w.cell? ⟨g, 72, none⟩ = some (.int .u64 (n : Int))) :
    Calls Tryd.prog 28 #[.pointer (some ⟨g, 0, none⟩)] w fun e w' => e = .returned (.int .i64 ((n % 64 : Nat) : Int)) ∧ w = w' := by
  go_enter Tryd.func28, Tryd.ntmps28
  go_wp2
  go_ret
  exact ⟨rfl, rfl⟩

theorem run_tail (g p : Nat) (hp : p < 64) (w : World) : (Instr.sliceAt 48 (.pointer (some ⟨g, 8, none⟩)) (some (.int .i64 (p : Int))) none none).run Tryd.prog w = .ok (.slice (some ⟨g, 8 + p, none⟩) (64 - p) (64 - p)) w := by
  have hl : Tryd.prog.arrayLen 48 = 64 := by kernel_rfl
  have he : Tryd.prog.elem 48 = 5 := by kernel_rfl
  have hs : (sizeOf 5).run Tryd.prog w = .ok 1 w := by kernel_rfl
  rw [run_sliceAt_array_l w 48 ⟨g, 8, none⟩ (by rw [hl, he]; exact Tryd.underlying48) .i64 (p : Int) (by omega) (by rw [hl]; omega), he, hs, hl]
  have h1 : ¬ (64 = p) := by omega
  simp [Result.andThen, slicedAt, h1, Addr.add_mid]

theorem tail_grow (r junk cs : List Int) (p m : Nat) (hr : r.length = p) (hm : cs.length = m) : (r ++ junk).take p ++ (cs ++ (r ++ junk).drop (p + cs.length)) = r ++ cs ++ junk.drop m := by
  subst hr; subst hm
  rw [List.take_left, List.drop_append, List.drop_eq_nil_of_le (by omega), List.nil_append, List.append_assoc]
  congr 3; omega

theorem Tab.only {w w' : World} {g : Nat} (h : Tab w) (hb : w.grownBy w' (some g)) (hg : g ≠ 0) : Tab w' := by
  intro k hk
  exact hb.cell (h k hk) (fun e => hg (by injection e with e; exact e.symm))

theorem info1 : (Tryd.prog.info? 5).map (·.size) = some 1 := by kernel_rfl

/-- A slice's length. -/
def lenOf : Value → Nat
  | .slice _ n _ => n
  | _ => 0

set_option maxRecDepth 100000 in
set_option maxHeartbeats 1000000 in
theorem write_any (g : Nat) (t : List Int) (a : Option Addr) (l : List Int) (len cap : Nat) (w : World) (hT : Tab w) (hg0 : g ≠ 0) (hH : IsHash w g t) (hL : Leads w a l) (hP : Past g a l) (hy : Byte l) (hl : l.length = len)
    (hlc : len ≤ cap) (hcap : cap ≤ 9223372036854775807) (hn : t.length + len ≤ 1000000000) :
    Calls Tryd.prog 19 #[.pointer (some ⟨g, 0, none⟩), .slice a len cap] w fun e w' => e = .returned (.tuple #[]) ∧ IsHash w' g (t ++ l) ∧ w.grownBy w' (some g) := by
  have HT := Lib.hid hT
  have HH := Lib.hid hH
  have HL := Lib.hid hL
  have HP := Lib.hid hP
  have HY := Lib.hid hy
  have HLN := Lib.hid hl
  have hlen : len ≤ 1000000000 := by omega
  have HN := Lib.hid hn
  clear hT hH hL hP hy hl hn
  go_enter Tryd.func19, Tryd.ntmps19
  go_wp2_with fail
  go_loopw [1] (fun v wr => ∃ (k r : Nat) (A : Option Addr) (cap' : Nat), k + r = len ∧ v = .slice A r cap' ∧ r ≤ cap' ∧ cap' ≤ 9223372036854775807 ∧ Leads wr A (l.drop k) ∧ Past g A (l.drop k) ∧ IsHash wr g (t ++ l.take k) ∧ w.grownBy wr (some g))
    (fun v _ => lenOf v)
  case atStart => exact ⟨0, len, a, cap, by omega, rfl, hlc, hcap, by simpa using HL.out, by simpa using HP.out, by simpa using HH.out, ⟨rfl, rfl, rfl, Nat.le_refl _, fun _ _ _ => rfl⟩⟩
  case round =>
    obtain ⟨k, r, A, cap', hkr, rfl, hrc, hcc, hlead, hpast, hash, hgrow⟩ := hrel
    by_cases hr : 0 < r
    · obtain ⟨b0, o0, rfl⟩ : ∃ b0 o0, A = some ⟨b0, o0, none⟩ := by
        rcases hlead with h | ⟨b0, o0, rfl, _⟩
        · have h' := congrArg List.length h
          rw [List.length_drop, HLN.out] at h'
          simp at h'; omega
        · exact ⟨b0, o0, rfl⟩
      obtain ⟨junk, j1, j2, j3⟩ := hash
      have hn' : (t ++ l.take k).length ≤ 1000000000 - r := by
        have := HN.out
        rw [List.length_append, List.length_take, HLN.out]; omega
      have hrl := rest_length (t ++ l.take k)
      have hca := HLN.out
      obtain ⟨cs, hcs⟩ : ∃ cs, (l.drop k).take (64 - (t ++ l.take k).length % 64) = cs := ⟨_, rfl⟩
      obtain ⟨m, hm⟩ : ∃ m, cs.length = m := ⟨_, rfl⟩
      have hm2 : m = min r (64 - (t ++ l.take k).length % 64) := by
        rw [← hm, ← hcs, List.length_take, List.length_drop, HLN.out]; omega
      have hnext : t ++ l.take (k + m) = (t ++ l.take k) ++ cs := by
        rw [List.append_assoc, List.take_add, ← hcs, hm2]
        congr 2
        by_cases hc : r ≤ 64 - (t ++ l.take k).length % 64
        · rw [Nat.min_eq_left hc, List.take_of_length_le (by rw [List.length_drop]; omega), List.take_of_length_le (by rw [List.length_drop]; omega)]
        · rw [Nat.min_eq_right (by omega)]
      have hlc' : Leads wr (some ⟨b0, o0, none⟩) cs := by rw [← hcs]; exact hlead.take _
      have hyc : Byte cs := by rw [← hcs]; exact (HY.out.drop k).take _
      have hdrop := hlead.drop m
      have hpd := hpast.drop m
      rw [List.drop_drop] at hdrop hpd
      generalize hu : t ++ l.take k = u at *
      have hsz := size_at j1 j3
      generalize hnu : u.length = n at *
      obtain ⟨p, hp⟩ : ∃ p, n % 64 = p := ⟨_, rfl⟩
      have hp64 : p < 64 := by omega
      have hfl := fun w h => filled_any g n (by omega) w h
      rw [hp] at hm2 hrl
      simp only [hp] at hfl
      have hsl := run_tail g p hp64
      have HFL := Lib.hid hfl
      have HPN := Lib.hid hp
      clear hcs hlead hpast hu
      have J2 := Lib.hid j2
      have J1 := Lib.hid j1
      have J3 := Lib.hid j3
      have HG := Lib.hid hgrow
      have HM := Lib.hid hm
      have HM2 := Lib.hid hm2
      have HNX := Lib.hid hnext
      have HC := Lib.hid hlc'
      have HYC := Lib.hid hyc
      have HD := Lib.hid hdrop
      have HPD := Lib.hid hpd
      have HRL := Lib.hid hrl
      have HNU := Lib.hid hnu
      have hm3 : m ≤ r := by omega
      have hm4 : m ≤ 64 - p := by omega
      have hm5 : 0 < m := by omega
      have htl : (rest u ++ cs ++ junk.drop m).length = 64 := by
        rw [List.length_append] at j1
        rw [List.length_append, List.length_append, List.length_drop]; omega
      have hty : Byte (rest u ++ cs ++ junk.drop m) := (Byte.append (fun c hc => j2 c (List.mem_append_left _ hc)) hyc).append ((show Byte junk from fun c hc => j2 c (List.mem_append_right _ hc)).drop m)
      have TL := Lib.hid htl
      have TY := Lib.hid hty
      clear htl hty
      clear j1 j2 j3 hgrow hm hm2 hnext hlc' hyc hdrop hpd hrl hnu hca hp hfl
      obtain ⟨A2, hA2⟩ : ∃ A2, (if cap' = m then some (⟨b0, o0, none⟩ : Addr) else some ⟨b0, o0 + m, none⟩) = A2 := ⟨_, rfl⟩
      have hl2 : ∀ wx, Leads wx (some ⟨b0, o0 + m, none⟩) (l.drop (k + m)) → Leads wx A2 (l.drop (k + m)) := by
        intro wx h
        rw [← hA2]
        split
        · exact .inl (List.drop_eq_nil_of_le (by rw [HLN.out]; omega))
        · exact h
      have hP2 : Past g A2 (l.drop (k + m)) := by
        rw [← hA2]
        split
        · exact .inl (List.drop_eq_nil_of_le (by rw [HLN.out]; omega))
        · exact HPD.out
      have HA2 := Lib.hid hl2
      have HP2 := Lib.hid hP2
      clear hl2 hP2
      by_cases hfull : p + m = 64
      · have hb : ((p : Int) + (m : Int) == 64) = true := by rw [beq_iff_eq]; omega
        have hfull' := Lib.hid hfull; clear hfull
        go_wp2_with (first
          | (go_at_call 28; refine (HFL.out _ hsz).mono ?_; rintro e w' ⟨rfl, rfl⟩)
          | (refine wpList_copy_into rfl (.tmp 17) (.tmp 18) 22 22 rfl 5 Tryd.underlying22 info1 g (8 + p) (64 - p) (64 - p) _ r cap' rfl rfl _ _ (by exact J3.out) cs m HM.out HM2.out HC.out (by rw [HM.out]; exact hm5) (by rw [HM.out, hashCells_length _ _ _ J1.out]; omega) ?_; intro w2 hw2 hg2; have hw3 := hw2.out; rw [cells_tail _ _ cs n p J1.out (by rw [HM.out]; omega), tail_grow _ _ _ p m HRL.out HM.out] at hw3; have hs2 := size_at TL.out hw3; have hf2 := hw3.free 72; have HW3 := Lib.hid hw3; clear hw2 hw3)
          | fail)
        generalize hw3 : w2.setCell ⟨g, 72, none⟩ (.int .u64 ((n : Int) + (m : Int))) = w3
        have k3 : Whole w3 g 56 (hashCells (stAt u (n / 64)) (rest u ++ cs ++ junk.drop m) (n + m)) := by
          have h := HW3.out.put 72 (.int .u64 ((n + m : Nat) : Int))
          rw [cells_size _ _ _ _ TL.out] at h
          rw [← hw3]; exact h
        have kg : wr.grownBy w3 (some g) := by rw [← hw3]; exact only_set hg2.out _ _
        clear hw3 hs2 hf2 HW3 hg2
        obtain ⟨tl, htl⟩ : ∃ tl, rest u ++ cs ++ junk.drop m = tl := ⟨_, rfl⟩
        have htl2 : tl = rest u ++ cs := by
          rw [← htl, List.drop_eq_nil_of_le, List.append_nil]
          have := TL.out
          have h1 := HM.out
          have h2 := HRL.out
          have h3 := hfull'.out
          rw [List.length_append, List.length_append, List.length_drop] at this
          omega
        have HTL : Hid (tl.length = 64) := by show tl.length = 64; rw [← htl]; exact TL.out
        have HTY : Hid (Byte tl) := by show Byte tl; rw [← htl]; exact TY.out
        rw [htl] at k3
        have HT2 := Lib.hid htl2
        clear htl htl2
        have kt : Tab w3.drew := Tab.only HT.out (only_draws (only_trans HG.out kg) 1) hg0
        have KT := Lib.hid kt
        have k3d : Whole w3.drew g 56 (hashCells (stAt u (n / 64)) tl (n + m)) := k3
        have r1 := range_state k3d
        have r2 := range_tail HTL.out k3d
        clear k3d kt
        have i8 : (Tryd.prog.info? 45).map (·.size) = some (u32s (stAt u (n / 64)).list).length := by rw [u32s_length]; exact info8
        have i8' : (Tryd.prog.info? 45).map (·.size) = some (u32s (mixed (stAt u (n / 64)) tl).list).toArray.size := by rw [u32s_size]; exact info8
        have i64 : (Tryd.prog.info? 48).map (·.size) = some (u8s tl).length := by rw [u8s_length, HTL.out]; exact info64b
        have R1 := Lib.hid r1
        have R2 := Lib.hid r2
        have I8 := Lib.hid i8
        have I8' := Lib.hid i8'
        have I64 := Lib.hid i64
        have K3 := Lib.hid k3
        have KG := Lib.hid kg
        clear r1 r2 i8 i8' i64 k3 kg
        refine wp_region_any (by kernel_rfl) ?_
        change wpAny _ _ _ _ _ _ _ (World.drew _)
        refine wpAny_take (i := 0) (v := ?_) rfl (by kernel_rfl) (by kernel_rfl) (by kernel_rfl) (fun _ _ _ h => h) (Or.inl ⟨by rfl, ?_⟩) ?_
        rotate_left
        · intro w; go_simp
          first | done | with_reducible rfl
        refine wpAny_take (i := 1) (v := ?_) rfl (by kernel_rfl) (by kernel_rfl) (by kernel_rfl) (fun _ _ _ h => h) (Or.inl ⟨by rfl, ?_⟩) ?_
        rotate_left
        · intro w; go_simp
          first | done | with_reducible rfl
        refine wpAny_take (i := 2) (v := ?_) rfl (by kernel_rfl) (by kernel_rfl) (by kernel_rfl) (fun _ _ _ h => h) (Or.inl ⟨by rfl, ?_⟩) ?_
        rotate_left
        · intro w; go_simp
          first | done | with_reducible rfl
        refine wpAny_take (i := 3) (v := ?_) rfl (by kernel_rfl) (by kernel_rfl) (by kernel_rfl) (fun _ _ _ h => h) (Or.inl ⟨by rfl, ?_⟩) ?_
        rotate_left
        · intro w; go_simp
          first | done | with_reducible rfl
        refine wpAny_take (i := 5) (v := ?_) rfl (by kernel_rfl) (by kernel_rfl) (by kernel_rfl) (fun _ _ _ h => h) (Or.inl ⟨by rfl, ?_⟩) ?_
        rotate_left
        · intro w; go_simp
          first | done | with_reducible rfl
        refine wpAny_take (i := 6) (v := ?_) rfl (by kernel_rfl) (by kernel_rfl) (by kernel_rfl) (fun _ _ _ h => h) (Or.inl ⟨by rfl, ?_⟩) ?_
        rotate_left
        · intro w; go_simp
          first | done | with_reducible rfl
        refine wpAny_take (i := 7) (v := ?_) rfl (by kernel_rfl) (by kernel_rfl) (by kernel_rfl) (fun _ _ _ h => h) (Or.inl ⟨by rfl, ?_⟩) ?_
        rotate_left
        · intro w; go_simp
          first | done | with_reducible rfl
        refine wpAny_ready (rs := [4, 8]) (by kernel_rfl) (by simp) ?_
        refine ready_load rfl 45 (.tmp 39) rfl g 0 (by go_simp) (u32s (stAt u (n / 64)).list) _ R1.out Tryd.underlying45 rfl I8.out (by rfl) ?_ (ready_load rfl 48 (.tmp 43) rfl g 8 (by go_simp) (u8s tl) _ R2.out Tryd.underlying48 rfl I64.out (by rfl) ?_ AllReady.nil)
        · refine wpAny_ready (rs := [8]) (by kernel_rfl) (by simp) ?_
          refine ready_load rfl 48 (.tmp 43) rfl g 8 (by go_simp) (u8s tl) _ R2.out Tryd.underlying48 rfl I64.out (by rfl) ?_ AllReady.nil
          refine wpAny_ready (rs := [9]) (by kernel_rfl) (by simp) ?_
          refine AllReady.cons rfl (fun K hK => ?_) AllReady.nil
          go_simp
          refine (mix_any _ tl HTL.out HTY.out _ KT.out).mono ?_
          rintro e w4 ⟨rfl, hb4⟩
          have k4 : Whole w4 g 56 (hashCells (stAt u (n / 64)) tl (n + m)) := Whole.kept (w := w3.drew) K3.out hb4
          have k4t : w4.there g 0 (u32s (mixed (stAt u (n / 64)) tl).list).toArray.size := k4.there _ _ (by rw [u32s_size, hashCells_length _ _ _ HTL.out]; exact (by decide : 0 + 8 ≤ 73))
          have kg4 : wr.grownBy w4 (some g) := only_below (w := w3.drew) (only_draws KG.out 1) hb4
          have K4 := Lib.hid k4
          have K4T := Lib.hid k4t
          have KG4 := Lib.hid kg4
          clear k4 k4t kg4 hb4
          refine hK _ _ ?_; clear hK K
          refine wpAny_take (i := 10) (v := ?_) rfl (by kernel_rfl) (by kernel_rfl) (by kernel_rfl) (fun _ _ _ h => h) (Or.inl ⟨by rfl, ?_⟩) ?_
          rotate_left
          · intro w; go_simp
            first | done | with_reducible rfl
          refine wpAny_take (i := 11) (v := ?_) rfl (by kernel_rfl) (by kernel_rfl) (by kernel_rfl) (fun _ _ _ h => h) (Or.inl ⟨by rfl, ?_⟩) ?_
          rotate_left
          · intro w; go_simp
            first | done | with_reducible rfl
          refine wpAny_ready (rs := [12]) (by kernel_rfl) (by simp) ?_
          refine ready_store rfl 45 (.tmp 47) (.tmp 45) rfl g 0 (u32s (mixed (stAt u (n / 64)) tl).list).toArray (by go_simp) (by go_simp) K4T.out I8'.out (u32s_one _) (by rfl) ?_ AllReady.nil
          intro w5 hw5
          have k5 := K4.out.lay (u32s (mixed (stAt u (n / 64)) tl).list) 0 (by rw [u32s_length, hashCells_length _ _ _ HTL.out]; exact (by decide : 0 + 8 ≤ 73))
          rw [cells_state] at k5
          have kg5 := only_lay (u32s (mixed (stAt u (n / 64)) tl).list) 0 KG4.out
          rw [show w4.setCells g 0 (u32s (mixed (stAt u (n / 64)) tl).list) = w5 from hw5] at k5 kg5
          have K5 := Lib.hid k5
          have KG5 := Lib.hid kg5
          clear hw5 k5 kg5
          refine wpAny_done (by kernel_rfl) ?_ _
          simp only [List.getElem_toArray, List.getElem_cons_succ, List.getElem_cons_zero, Act.put, List.setIfInBounds_toArray, List.set_cons_succ, List.set_cons_zero]
          go_wp2
          obtain ⟨e1, e2, e3⟩ := rest_full u cs (by rw [HNU.out, HPN.out, HM.out]; exact hfull'.out)
          rw [HNU.out, ← HT2.out] at e3
          refine ⟨⟨k + m, r - m, A2, cap' - m, by omega, rfl, by omega, by omega, HA2.out _ (HD.out.keep KG5.out (fun g' e => by injection e with e; subst e; exact HPD.out)), HP2.out, ?_, only_trans HG.out KG5.out⟩, ?_⟩
          · refine ⟨tl, ?_, ?_, ?_⟩
            · rw [HNX.out, e2]; exact HTL.out
            · rw [HNX.out, e2]; exact HTY.out
            · rw [HNX.out, e2, e3, List.length_append, HNU.out, HM.out]; exact K5.out
          · show r - m < r; omega
        · refine wpAny_ready (rs := [4]) (by kernel_rfl) (by simp) ?_
          refine ready_load rfl 45 (.tmp 39) rfl g 0 (by go_simp) (u32s (stAt u (n / 64)).list) _ R1.out Tryd.underlying45 rfl I8.out (by rfl) ?_ AllReady.nil
          refine wpAny_ready (rs := [9]) (by kernel_rfl) (by simp) ?_
          refine AllReady.cons rfl (fun K hK => ?_) AllReady.nil
          go_simp
          refine (mix_any _ tl HTL.out HTY.out _ KT.out).mono ?_
          rintro e w4 ⟨rfl, hb4⟩
          have k4 : Whole w4 g 56 (hashCells (stAt u (n / 64)) tl (n + m)) := Whole.kept (w := w3.drew) K3.out hb4
          have k4t : w4.there g 0 (u32s (mixed (stAt u (n / 64)) tl).list).toArray.size := k4.there _ _ (by rw [u32s_size, hashCells_length _ _ _ HTL.out]; exact (by decide : 0 + 8 ≤ 73))
          have kg4 : wr.grownBy w4 (some g) := only_below (w := w3.drew) (only_draws KG.out 1) hb4
          have K4 := Lib.hid k4
          have K4T := Lib.hid k4t
          have KG4 := Lib.hid kg4
          clear k4 k4t kg4 hb4
          refine hK _ _ ?_; clear hK K
          refine wpAny_take (i := 10) (v := ?_) rfl (by kernel_rfl) (by kernel_rfl) (by kernel_rfl) (fun _ _ _ h => h) (Or.inl ⟨by rfl, ?_⟩) ?_
          rotate_left
          · intro w; go_simp
            first | done | with_reducible rfl
          refine wpAny_take (i := 11) (v := ?_) rfl (by kernel_rfl) (by kernel_rfl) (by kernel_rfl) (fun _ _ _ h => h) (Or.inl ⟨by rfl, ?_⟩) ?_
          rotate_left
          · intro w; go_simp
            first | done | with_reducible rfl
          refine wpAny_ready (rs := [12]) (by kernel_rfl) (by simp) ?_
          refine ready_store rfl 45 (.tmp 47) (.tmp 45) rfl g 0 (u32s (mixed (stAt u (n / 64)) tl).list).toArray (by go_simp) (by go_simp) K4T.out I8'.out (u32s_one _) (by rfl) ?_ AllReady.nil
          intro w5 hw5
          have k5 := K4.out.lay (u32s (mixed (stAt u (n / 64)) tl).list) 0 (by rw [u32s_length, hashCells_length _ _ _ HTL.out]; exact (by decide : 0 + 8 ≤ 73))
          rw [cells_state] at k5
          have kg5 := only_lay (u32s (mixed (stAt u (n / 64)) tl).list) 0 KG4.out
          rw [show w4.setCells g 0 (u32s (mixed (stAt u (n / 64)) tl).list) = w5 from hw5] at k5 kg5
          have K5 := Lib.hid k5
          have KG5 := Lib.hid kg5
          clear hw5 k5 kg5
          refine wpAny_done (by kernel_rfl) ?_ _
          simp only [List.getElem_toArray, List.getElem_cons_succ, List.getElem_cons_zero, Act.put, List.setIfInBounds_toArray, List.set_cons_succ, List.set_cons_zero]
          go_wp2
          obtain ⟨e1, e2, e3⟩ := rest_full u cs (by rw [HNU.out, HPN.out, HM.out]; exact hfull'.out)
          rw [HNU.out, ← HT2.out] at e3
          refine ⟨⟨k + m, r - m, A2, cap' - m, by omega, rfl, by omega, by omega, HA2.out _ (HD.out.keep KG5.out (fun g' e => by injection e with e; subst e; exact HPD.out)), HP2.out, ?_, only_trans HG.out KG5.out⟩, ?_⟩
          · refine ⟨tl, ?_, ?_, ?_⟩
            · rw [HNX.out, e2]; exact HTL.out
            · rw [HNX.out, e2]; exact HTY.out
            · rw [HNX.out, e2, e3, List.length_append, HNU.out, HM.out]; exact K5.out
          · show r - m < r; omega
      · have hb : ((p : Int) + (m : Int) == 64) = false := by rw [beq_eq_false_iff_ne]; omega
        go_wp2_with (first
          | (go_at_call 28; refine (HFL.out _ hsz).mono ?_; rintro e w' ⟨rfl, rfl⟩)
          | (refine wpList_copy_into rfl (.tmp 17) (.tmp 18) 22 22 rfl 5 Tryd.underlying22 info1 g (8 + p) (64 - p) (64 - p) _ r cap' rfl rfl _ _ (by exact J3.out) cs m HM.out HM2.out HC.out (by rw [HM.out]; exact hm5) (by rw [HM.out, hashCells_length _ _ _ J1.out]; omega) ?_; intro w2 hw2 hg2; have hw3 := hw2.out; rw [cells_tail _ _ cs n p J1.out (by rw [HM.out]; omega), tail_grow _ _ _ p m HRL.out HM.out] at hw3; have hs2 := size_at TL.out hw3; have hf2 := hw3.free 72; have HW3 := Lib.hid hw3; clear hw2 hw3)
          | fail)
        have h := HW3.out.put 72 (.int .u64 ((n + m : Nat) : Int))
        rw [cells_size _ _ _ _ TL.out] at h
        have hg3 := only_set hg2.out 72 (.int .u64 ((n + m : Nat) : Int))
        obtain ⟨e1, e2, e3⟩ := rest_grow u cs (by rw [HNU.out, HPN.out, HM.out]; omega)
        rw [HNU.out] at e3
        refine ⟨⟨k + m, r - m, A2, cap' - m, by omega, rfl, by omega, by omega, HA2.out _ (HD.out.keep hg3 (fun g' e => by injection e with e; subst e; exact HPD.out)), HP2.out, ?_, only_trans HG.out hg3⟩, ?_⟩
        · refine ⟨junk.drop m, ?_, ?_, ?_⟩
          · rw [HNX.out, e2]; exact TL.out
          · rw [HNX.out, e2]; exact TY.out
          · rw [HNX.out, e2, e3, List.length_append, HNU.out, HM.out]; exact h
        · show r - m < r; omega
    · obtain rfl : r = 0 := by omega
      obtain rfl : k = len := by omega
      have hfin : t ++ l.take k = t ++ l := by rw [← HLN.out, List.take_length]
      rw [hfin] at hash
      have HF := Lib.hid hash
      have HG := Lib.hid hgrow
      clear hash hgrow
      go_wp2_with fail
      go_end0
      exact ⟨rfl, HF.out, HG.out⟩
end Go.Proofs.YtchbfcegonlhoaaDoor.sha
