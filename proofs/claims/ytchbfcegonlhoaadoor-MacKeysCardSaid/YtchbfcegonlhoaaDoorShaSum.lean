/-
  THE WALKS OF "(*sha.Hash).digest", "(*sha.Hash).Sum", "sha.Sum": the digest of what was written.
-/
import Derived.Test.YtchbfcegonlhoaaDoorShaEnd
namespace Go.Proofs.YtchbfcegonlhoaaDoor.sha
open Go.RowKit

def outAt (l : List (BitVec 32)) (k : Nat) : List Int := (l.take k).flatMap four ++ List.replicate (32 - 4 * k) 0
theorem four_length (x : BitVec 32) : (four x).length = 4 := rfl
theorem flat_length (l : List (BitVec 32)) : (l.flatMap four).length = 4 * l.length := by
  induction l with
  | nil => rfl
  | cons x r ih => rw [List.flatMap_cons, List.length_append, ih, four_length, List.length_cons]; omega
theorem outAt_length (l : List (BitVec 32)) (hl : l.length = 8) (k : Nat) (hk : k ≤ 8) : (outAt l k).length = 32 := by
  rw [outAt, List.length_append, flat_length, List.length_take, List.length_replicate]; omega
theorem set_four (A : List Int) (n : Nat) (a b c d : Int) (k : Nat) (hA : A.length = 4 * k) (hn : 4 ≤ n) :
    ((((A ++ List.replicate n 0).set (4 * k) a).set (4 * k + 1) b).set (4 * k + 2) c).set (4 * k + 3) d = A ++ [a, b, c, d] ++ List.replicate (n - 4) 0 := by
  obtain ⟨m, rfl⟩ : ∃ m, n = m + 4 := ⟨n - 4, by omega⟩
  rw [List.set_append_right _ _ (by omega), List.set_append_right _ _ (by omega), List.set_append_right _ _ (by omega), List.set_append_right _ _ (by omega), hA,
    Nat.sub_self, show 4 * k + 1 - 4 * k = 1 by omega, show 4 * k + 2 - 4 * k = 2 by omega, show 4 * k + 3 - 4 * k = 3 by omega, List.append_assoc]
  rfl
theorem outAt_set (l : List (BitVec 32)) (hl : l.length = 8) (k : Nat) (hk : k < 8) :
    (((((u8s (outAt l k)).set (4 * k) (.int .u8 (W (l.getD k 0) / 16777216 % 256))).set (4 * k + 1) (.int .u8 (W (l.getD k 0) / 65536 % 256))).set (4 * k + 2) (.int .u8 (W (l.getD k 0) / 256 % 256))).set (4 * k + 3) (.int .u8 (W (l.getD k 0) % 256))) = u8s (outAt l (k + 1)) := by
  have h : ((((outAt l k).set (4 * k) (W (l.getD k 0) / 16777216 % 256)).set (4 * k + 1) (W (l.getD k 0) / 65536 % 256)).set (4 * k + 2) (W (l.getD k 0) / 256 % 256)).set (4 * k + 3) (W (l.getD k 0) % 256) = outAt l (k + 1) := by
    rw [outAt, set_four _ _ _ _ _ _ _ (by rw [flat_length, List.length_take]; omega) (by omega), outAt, List.take_succ_eq_append_getElem (by omega), List.flatMap_append, show 32 - 4 * k - 4 = 32 - 4 * (k + 1) by omega,
      List.getD_eq_getElem?_getD, List.getElem?_eq_getElem (by omega)]
    simp [four]
  rw [← h]; simp [u8s, List.map_set]
theorem outAt_end (s : St) : outAt s.list 8 = out s := by
  rw [outAt, List.take_of_length_le (by exact Nat.le_refl 8)]; simp [out]

theorem info32 : (Tryd.prog.info? 25).map (·.size) = some 32 := by kernel_rfl
def z32 : List Int := List.replicate 32 0
theorem zero32 (w : World) : (zeroValue 25).run Tryd.prog w = .ok (.agg (u8s z32).toArray) w := by kernel_rfl

set_option maxRecDepth 100000 in
set_option maxHeartbeats 1000000 in
theorem digest_any (g : Nat) (s : St) (tail : List Int) (n : Nat) (w : World) (hH : Whole w g 56 (hashCells s tail n)) :
    Calls Tryd.prog 31 #[.pointer (some ⟨g, 0, none⟩)] w fun e w' => e = .returned (.agg (u8s (out s)).toArray) ∧ Below w.heap.size w w' := by
  have hl : s.list.length = 8 := rfl
  have HO := Lib.hid (outAt_end s)
  have hr := range_state hH
  obtain ⟨l, hsl⟩ : ∃ l, s.list = l := ⟨_, rfl⟩
  rw [hsl] at hl HO hr
  have hi : (Tryd.prog.info? 45).map (·.size) = some (u32s l).length := by rw [u32s_length, hl]; exact info8
  have HR := Lib.hid hr
  have HI := Lib.hid hi
  have HL := Lib.hid hl
  have HH := Lib.hid hH
  clear hsl hr hi hl hH
  have hz := zero32
  go_enter Tryd.func31, Tryd.ntmps31
  go_wp2_with (first
    | (refine wpList_load_mid rfl 45 (.tmp 8) rfl g 0 rfl (u32s l) _ (by exact World.rangeAt_alloc (World.rangeAt_alloc HR.out _) _) Tryd.underlying45 rfl HI.out ?_)
    | fail)
  clear hz
  go_loopw [10] (fun i wr => ∃ k : Nat, k ≤ 8 ∧ i = .int .i64 k ∧ Whole wr w.heap.size 25 (u8s z32) ∧ Whole wr (w.heap.size + 1) 25 (u8s (outAt l k)) ∧ Below w.heap.size w wr) (fun i _ => 8 - (intOf i).toNat)
  case atStart => exact ⟨0, by omega, rfl, (Whole.new_ rfl rfl).more _, Whole.new_ (by simp) rfl, ((Below.refl _ _).alloc (Nat.le_refl _) _).alloc (by simp) _⟩
  case round =>
    obtain ⟨k, hk, rfl, h1, h2, hbel⟩ := hrel
    by_cases hlt : k < 8
    · have hx : (u32s l).toArray[k]? = some (.int .u32 (W (l.getD k 0))) := by
        rw [List.getElem?_toArray]; exact u32s_at _ (by rw [HL.out]; exact hlt)
      obtain ⟨i0, hi0, _, hi1, _⟩ := info_parts word_info
      have hix := fun w => run_index_array (P := Tryd.prog) .i64 Tryd.underlying45 Tryd.underlying43 hi0 hi1 hlt hx w
      have hset := outAt_set l HL.out k hlt
      have hle := outAt_length l HL.out k hk
      have c0 : wr.cell? ⟨w.heap.size + 1, 4 * k, none⟩ = _ := (h2.at_ _).trans (u8s_at _ (by rw [hle]; omega))
      have c1 : wr.cell? ⟨w.heap.size + 1, 4 * k + 1, none⟩ = _ := (h2.at_ _).trans (u8s_at _ (by rw [hle]; omega))
      have c2 : wr.cell? ⟨w.heap.size + 1, 4 * k + 2, none⟩ = _ := (h2.at_ _).trans (u8s_at _ (by rw [hle]; omega))
      have c3 : wr.cell? ⟨w.heap.size + 1, 4 * k + 3, none⟩ = _ := (h2.at_ _).trans (u8s_at _ (by rw [hle]; omega))
      have f0 := h2.free (4 * k)
      have f1 := h2.free (4 * k + 1)
      have f2 := h2.free (4 * k + 2)
      have f3 := h2.free (4 * k + 3)
      generalize (outAt l k).getD (4 * k) 0 = z0 at c0
      generalize (outAt l k).getD (4 * k + 1) 0 = z1 at c1
      generalize (outAt l k).getD (4 * k + 2) 0 = z2 at c2
      generalize (outAt l k).getD (4 * k + 3) 0 = z3 at c3
      generalize l.getD k 0 = x at hix hset
      have HSET := Lib.hid hset
      have H1 := Lib.hid h1
      have H2 := Lib.hid h2
      have HBel := Lib.hid hbel
      clear hx hi0 hi1 hset hle h1 h2 hbel
      go_wp2_with fail
      refine ⟨⟨k + 1, by omega, by go_num, ?_, ?_, ?_⟩, by simp [intOf]; omega⟩
      · exact (((H1.out.apart (p := ⟨w.heap.size + 1, 4 * k, none⟩) (by simp) _).apart (p := ⟨w.heap.size + 1, 4 * k + 1, none⟩) (by simp) _).apart (p := ⟨w.heap.size + 1, 4 * k + 2, none⟩) (by simp) _).apart (p := ⟨w.heap.size + 1, 4 * k + 3, none⟩) (by simp) _
      · have h := (((H2.out.put (4 * k) (.int .u8 (W x / 16777216 % 256))).put (4 * k + 1) (.int .u8 (W x / 65536 % 256))).put (4 * k + 2) (.int .u8 (W x / 256 % 256))).put (4 * k + 3) (.int .u8 (W x % 256))
        rw [HSET.out] at h
        exact h
      · exact (((HBel.out.setCell (by simp) _).setCell (by simp) _).setCell (by simp) _).setCell (by simp) _
    · obtain rfl : k = 8 := by omega
      rw [HO.out] at h2
      have ho : (out s).length = 32 := by rw [← HO.out]; exact outAt_length l HL.out 8 (by omega)
      have hi32 : (Tryd.prog.info? 25).map (·.size) = some (u8s (out s)).toArray.size := by rw [u8s_size, ho]; exact info32
      have hth : wr.there w.heap.size 0 (u8s (out s)).toArray.size := h1.there _ _ (by rw [u8s_size, ho]; exact Nat.le_refl 32)
      have k1 := h1.lay (u8s (out s)) 0 (by rw [u8s_length, ho]; exact Nat.le_refl 32)
      rw [lay_all _ _ (by rw [u8s_length, u8s_length, ho]; rfl)] at k1
      have kb := below_lay (u8s (out s)) w.heap.size 0 hbel (Nat.le_refl _)
      have H2 := Lib.hid h2
      have HI32 := Lib.hid hi32
      have HTH := Lib.hid hth
      have K1 := Lib.hid k1
      have KB := Lib.hid kb
      clear h1 h2 hbel ho hi32 hth k1 kb
      go_wp2_with (first
        | (refine wpList_load_row rfl 25 (.tmp 3) rfl (w.heap.size + 1) rfl 25 (u8s (out s)).toArray (0, 0) _ H2.out Tryd.underlying25 rfl HI32.out ?_)
        | (refine wpList_store_mid rfl 25 (.tmp 2) (.tmp 41) rfl w.heap.size 0 (u8s (out s)).toArray rfl rfl HTH.out HI32.out (u8s_one _) ?_)
        | fail)
      exact bodyPost_ret (results_cell_row rfl _ _ w.heap.size 25 (u8s (out s)).toArray (0, 0) _ rfl K1.out Tryd.underlying25 rfl HI32.out) rfl ⟨rfl, KB.out⟩

theorem digest_length (t : List Int) : (digest t).length = 32 := by
  rw [digest, ← outAt_end]; exact outAt_length _ rfl 8 (by omega)
theorem padded_byte {t : List Int} (h : Byte t) : Byte (padded t) := h.append (pad_byte _)
theorem Tab.lt {w : World} (h : Tab w) : 0 < w.heap.size := block_lt_of_cell (h 0 (by omega))
theorem infoHash : (Tryd.prog.info? 56).map (·.size) = some 73 := by kernel_rfl
theorem hash_one (s : St) (tail : List Int) (n : Nat) : (hashCells s tail n).toArray.all (·.oneCell') = true := all_oneCell_toArray (by
  intro v hv
  rcases List.mem_append.1 hv with h | h
  · simp [u32s] at h; obtain ⟨x, _, rfl⟩ := h; rfl
  · rcases List.mem_append.1 h with h | h
    · simp [u8s] at h; obtain ⟨x, _, rfl⟩ := h; rfl
    · simp at h; subst h; rfl)

set_option maxRecDepth 100000 in
set_option maxHeartbeats 1000000 in
theorem hsum_any (g : Nat) (t : List Int) (w : World) (hT : Tab w) (hH : IsHash w g t) (hn : t.length ≤ 1000000) :
    Calls Tryd.prog 20 #[.pointer (some ⟨g, 0, none⟩)] w fun e w' => e = .returned (.agg (u8s (digest t)).toArray) ∧ Below w.heap.size w w' := by
  obtain ⟨junk, j1, j2, j3⟩ := hH
  have hgl := j3.lt
  obtain ⟨C, hC⟩ : ∃ C, hashCells (stAt t (t.length / 64)) (rest t ++ junk) t.length = C := ⟨_, rfl⟩
  have hCl : C.length = 73 := by rw [← hC]; exact hashCells_length _ _ _ j1
  have hC1 : C.toArray.all (·.oneCell') = true := by rw [← hC]; exact hash_one _ _ _
  have hfin : ∀ wx g', Whole wx g' 56 C → IsHash wx g' t := fun wx g' h => ⟨junk, j1, j2, by rw [hC]; exact h⟩
  rw [hC] at j3
  have hiC : (Tryd.prog.info? 56).map (·.size) = some C.toArray.size := by rw [List.size_toArray, hCl]; exact infoHash
  have HFIN := Lib.hid hfin
  have HIC := Lib.hid hiC
  have HC1 := Lib.hid hC1
  have HCL := Lib.hid hCl
  have J3 := Lib.hid j3
  have HT := Lib.hid hT
  have HN := Lib.hid hn
  have hz := zero32
  have hzh := zeroHash
  clear hC j1 j2 hfin hiC hC1 hCl j3 hT hn
  go_enter Tryd.func20, Tryd.ntmps20
  go_wp2_with (first
    | (refine wpList_load_row rfl 56 (.tmp 8) rfl g rfl 56 C.toArray (0, 0) _ (by exact J3.out.more _) Tryd.underlying56 rfl HIC.out ?_)
    | (refine wpList_store_as rfl 56 (.tmp 3) (.tmp 9) rfl (w.heap.size + 1) 0 C.toArray rfl rfl (by exact (Whole.new_ (l := hashCells ⟨0, 0, 0, 0, 0, 0, 0, 0⟩ z64 0) (by simp) rfl).there _ _ (by rw [List.size_toArray, HCL.out]; exact Nat.le_refl 73)) HIC.out HC1.out ?_; intro w2 hw2; have HW2 := Lib.hid hw2; clear hw2)
    | fail)
  have k1 : Whole w2 (w.heap.size + 1) 56 C := by
    rw [← HW2.out]
    have h := Whole.lay C 0 (Whole.new_ (w := w.alloc (.cells (u8s z32).toArray 25)) (g := w.heap.size + 1) (t := 56) (l := hashCells ⟨0, 0, 0, 0, 0, 0, 0, 0⟩ z64 0) (by simp) rfl) (by rw [HCL.out]; exact Nat.le_refl 73)
    rwa [lay_all _ _ (by rw [HCL.out]; rfl)] at h
  have k2 : Whole w2 w.heap.size 25 (u8s z32) := by rw [← HW2.out]; exact ((Whole.new_ rfl rfl).more _).lay_apart _ _ _ (by omega)
  have kb : Below w.heap.size w w2 := by rw [← HW2.out]; exact below_lay _ _ _ (((Below.refl _ _).alloc (Nat.le_refl _) _).alloc (by simp) _) (by omega)
  have hg1 := HT.out.lt
  have K2 := Lib.hid k2
  have KB := Lib.hid kb
  have C1 := Lib.hid (end_any (w.heap.size + 1) t w2 (HT.out.later kb) (by omega) (HFIN.out _ _ k1) HN.out)
  clear k1 k2 kb HW2 hz hzh
  refine C1.out.mono ?_
  rintro e w3 ⟨rfl, h3, h4⟩
  clear C1
  obtain ⟨junk2, i1, i2, i3⟩ := h3
  have k3 : Whole w3 w.heap.size 25 (u8s z32) := K2.out.grown h4 (by simp)
  have kb3 : Below w.heap.size w w3 := below_only KB.out h4 (by omega) KB.out.size
  have C2 := digest_any (w.heap.size + 1) _ _ _ w3 i3
  rw [show out (stAt (padded t) ((padded t).length / 64)) = digest t from rfl] at C2
  have hdl := digest_length t
  have hi32 : (Tryd.prog.info? 25).map (·.size) = some (u8s (digest t)).toArray.size := by rw [u8s_size, hdl]; exact info32
  obtain ⟨D, hD⟩ : ∃ D, digest t = D := ⟨_, rfl⟩
  rw [hD] at C2 hdl hi32
  have HDD := Lib.hid hD
  have C2' := Lib.hid C2
  have K3 := Lib.hid k3
  have KB3 := Lib.hid kb3
  have HI32 := Lib.hid hi32
  have HDL := Lib.hid hdl
  clear i1 i2 i3 h4 k3 kb3 C2 hi32 hdl hD K2 KB
  go_wp2_with fail
  refine C2'.out.mono ?_
  rintro e w4 ⟨rfl, h5⟩
  clear C2'
  have k4 := K3.out.kept h5
  have kb4 := KB3.out.trans (h5.mono KB3.out.size)
  have hth : w4.there w.heap.size 0 (u8s D).toArray.size := k4.there _ _ (by rw [u8s_size, HDL.out]; exact Nat.le_refl 32)
  have k5 := k4.lay (u8s D) 0 (by rw [u8s_length, HDL.out]; exact Nat.le_refl 32)
  rw [lay_all _ _ (by rw [u8s_length, u8s_length, HDL.out]; rfl)] at k5
  have kb5 := below_lay (u8s D) w.heap.size 0 kb4 (Nat.le_refl _)
  have HTH := Lib.hid hth
  have K5 := Lib.hid k5
  have KB5 := Lib.hid kb5
  clear h5 k4 kb4 hth k5 kb5
  go_wp2_with (first
    | (refine wpList_store_mid rfl 25 (.tmp 2) (.tmp 11) rfl w.heap.size 0 (u8s D).toArray rfl rfl HTH.out HI32.out (u8s_one _) ?_)
    | fail)
  exact bodyPost_ret (results_cell_row rfl _ _ w.heap.size 25 (u8s D).toArray (0, 0) _ rfl K5.out Tryd.underlying25 rfl HI32.out) rfl ⟨by rw [HDD.out], KB5.out⟩

set_option maxRecDepth 100000 in
set_option maxHeartbeats 1000000 in
theorem ssum_any (a : Option Addr) (l : List Int) (len cap : Nat) (w : World) (hT : Tab w) (hL : Leads w a l) (hy : Byte l) (hl : l.length = len) (hlc : len ≤ cap) (hcap : cap ≤ 9223372036854775807) (hn : len ≤ 1000000) :
    Calls Tryd.prog 10 #[.slice a len cap] w fun e w' => e = .returned (.agg (u8s (digest l)).toArray) ∧ Below w.heap.size w w' := by
  have HT := Lib.hid hT
  have HL := Lib.hid hL
  have HY := Lib.hid hy
  have HLN := Lib.hid hl
  have hz := zero32
  clear hT hL hy hl
  go_enter Tryd.func10, Tryd.ntmps10
  go_wp2_with fail
  refine (new_any _).mono ?_
  rintro e w2 ⟨rfl, h1, h2⟩
  have hs : (w.alloc (.cells (u8s z32).toArray 25)).heap.size = w.heap.size + 1 := by simp
  rw [hs] at h1 h2 ⊢
  have k2 : Whole w2 w.heap.size 25 (u8s z32) := Whole.keep (Whole.new_ rfl rfl) h2 (by omega)
  have kb : Below w.heap.size w w2 := ((Below.refl _ _).alloc (Nat.le_refl _) _).trans (h2.mono (by omega))
  have hg1 := HT.out.lt
  have hsz : w.heap.size + 1 ≤ w2.heap.size := by rw [← hs]; exact h2.size
  have hp : Past (w.heap.size + 1) a l := by
    by_cases h0 : l = []
    · exact .inl h0
    · obtain ⟨b, off, e, hb⟩ := HL.out.lt h0
      refine .inr fun b' off' e' => ?_
      rw [e] at e'; injection e' with e'; injection e' with e'; omega
  have C1 := Lib.hid (write_any (w.heap.size + 1) [] a l len cap w2 (HT.out.later kb) (by omega) h1 (HL.out.later kb) hp HY.out HLN.out hlc hcap (by simp; omega))
  rw [List.nil_append] at C1
  have K2 := Lib.hid k2
  have KB := Lib.hid kb
  clear h1 h2 k2 kb hp hz
  go_wp2_with fail
  refine C1.out.mono ?_
  rintro e w3 ⟨rfl, h3, h4⟩
  clear C1
  have k3 : Whole w3 w.heap.size 25 (u8s z32) := K2.out.grown h4 (by simp)
  have kb3 : Below w.heap.size w w3 := below_only KB.out h4 (by omega) KB.out.size
  have C2 := Lib.hid (hsum_any (w.heap.size + 1) l w3 (HT.out.later kb3) h3 (by rw [HLN.out]; exact hn))
  have K3 := Lib.hid k3
  have KB3 := Lib.hid kb3
  clear h3 h4 k3 kb3 K2 KB
  go_wp2_with fail
  refine C2.out.mono ?_
  rintro e w4 ⟨rfl, h5⟩
  clear C2
  have HDL := Lib.hid (digest_length l)
  have hi32 : (Tryd.prog.info? 25).map (·.size) = some (u8s (digest l)).toArray.size := by rw [u8s_size, HDL.out]; exact info32
  have HI32 := Lib.hid hi32
  have k4 := K3.out.kept h5
  have kb4 := KB3.out.trans (h5.mono KB3.out.size)
  have hth : w4.there w.heap.size 0 (u8s (digest l)).toArray.size := k4.there _ _ (by rw [u8s_size, HDL.out]; exact Nat.le_refl 32)
  have k5 := k4.lay (u8s (digest l)) 0 (by rw [u8s_length, HDL.out]; exact Nat.le_refl 32)
  rw [lay_all _ _ (by rw [u8s_length, u8s_length, HDL.out]; rfl)] at k5
  have kb5 := below_lay (u8s (digest l)) w.heap.size 0 kb4 (Nat.le_refl _)
  have HTH := Lib.hid hth
  have K5 := Lib.hid k5
  have KB5 := Lib.hid kb5
  clear h5 k4 kb4 hth k5 kb5 hi32
  go_wp2_with (first
    | (refine wpList_store_mid rfl 25 (.tmp 2) (.tmp 9) rfl w.heap.size 0 (u8s (digest l)).toArray rfl rfl HTH.out HI32.out (u8s_one _) ?_)
    | fail)
  exact bodyPost_ret (results_cell_row rfl _ _ w.heap.size 25 (u8s (digest l)).toArray (0, 0) _ rfl K5.out Tryd.underlying25 rfl HI32.out) rfl ⟨rfl, KB5.out⟩

/-- A nil Hash's Sum: that of nothing. -/
theorem hsum_nil (w : World) (hT : Tab w) :
    Calls Tryd.prog 20 #[.pointer none] w fun e w' => e = .returned (.agg (u8s (digest [])).toArray) ∧ Below w.heap.size w w' := by
  have HT := Lib.hid hT
  have hz := zero32
  clear hT
  go_enter Tryd.func20, Tryd.ntmps20
  go_wp2_with fail
  have k0 : Below w.heap.size w (w.alloc (.cells (u8s z32).toArray 25)) := (Below.refl _ _).alloc (Nat.le_refl _) _
  refine (ssum_any none [] 0 0 _ (HT.out.later k0) (.inl rfl) Byte.nil rfl (by omega) (by omega) (by omega)).mono ?_
  rintro e w4 ⟨rfl, h5⟩
  have HDL := Lib.hid (digest_length [])
  have hi32 : (Tryd.prog.info? 25).map (·.size) = some (u8s (digest [])).toArray.size := by rw [u8s_size, HDL.out]; exact info32
  have HI32 := Lib.hid hi32
  have k4 : Whole w4 w.heap.size 25 (u8s z32) := Whole.kept (Whole.new_ rfl rfl) h5
  have kb4 := k0.trans (h5.mono (by simp))
  have hth : w4.there w.heap.size 0 (u8s (digest [])).toArray.size := k4.there _ _ (by rw [u8s_size, HDL.out]; exact Nat.le_refl 32)
  have k5 := k4.lay (u8s (digest [])) 0 (by rw [u8s_length, HDL.out]; exact Nat.le_refl 32)
  rw [lay_all _ _ (by rw [u8s_length, u8s_length, HDL.out]; rfl)] at k5
  have kb5 := below_lay (u8s (digest [])) w.heap.size 0 kb4 (Nat.le_refl _)
  have HTH := Lib.hid hth
  have K5 := Lib.hid k5
  have KB5 := Lib.hid kb5
  clear h5 k4 kb4 hth k5 kb5 hi32 k0 hz
  go_wp2_with (first
    | (refine wpList_store_mid rfl 25 (.tmp 2) (.tmp 6) rfl w.heap.size 0 (u8s (digest [])).toArray rfl rfl HTH.out HI32.out (u8s_one _) ?_)
    | fail)
  exact bodyPost_ret (results_cell_row rfl _ _ w.heap.size 25 (u8s (digest [])).toArray (0, 0) _ rfl K5.out Tryd.underlying25 rfl HI32.out) rfl ⟨rfl, KB5.out⟩

theorem write_nil (v : Value) (w : World) :
    Calls Tryd.prog 19 #[.pointer none, v] w fun e w' => e = .returned (.tuple #[]) ∧ w = w' := by
  go_enter Tryd.func19, Tryd.ntmps19
  go_wp2_with fail
  first
    | (go_end0; exact ⟨rfl, rfl⟩)
    | (refine bodyPost_ret (results_none rfl _ _ _) rfl ?_; exact ⟨rfl, rfl⟩)
end Go.Proofs.YtchbfcegonlhoaaDoor.sha
