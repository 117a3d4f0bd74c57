/-
  CONTRACT of stillroomlaw7.inner: a record by a number; what a record alone is found as.
-/
import Derived.Test.YtodajceiadbpeaaDoorScBegun
namespace Go.Proofs.YtodajceiadbpeaaDoor.scan
open Go.RowKit Go.Proofs.YtodajceiadbpeaaDoor.disk Go.Proofs.YtodajceiadbpeaaDoor.recd Go.Proofs.YtodajceiadbpeaaDoor.num
set_option linter.unusedVariables false

/-- A record alone is found, at its place. -/
theorem rest_one (r : Rec) (h : mayB r = true) (ht : r.tenant < 4294967296) : rest (encL r) 0 = [⟨0, r⟩] := by
  have hd := dec_enc r h ht
  have hl := encL_length r
  rw [rest_ok (by omega) (by rw [List.drop_zero, hd]), List.drop_zero, hd, rest_end (by rw [hl]; exact Nat.le_of_eq (by show 39 + r.body.size = 0 + (39 + r.body.size); omega))]
theorem front_one (r : Rec) (h : mayB r = true) (ht : r.tenant < 4294967296) : front (encL r) 0 = ([⟨0, r⟩], (encL r).length) := by
  have hd := dec_enc r h ht
  have hl := encL_length r
  have e : front (encL r) (0 + (39 + r.body.size)) = ([], 0 + (39 + r.body.size)) := front_no (dec_short (by rw [List.length_drop, hl]; omega))
  rw [front_ok (by rw [List.drop_zero, hd]), List.drop_zero, hd]
  show (_ :: (front (encL r) (0 + (39 + r.body.size))).1, (front (encL r) (0 + (39 + r.body.size))).2) = _
  rw [e, hl]
  simp

def inn (i : Nat) (x : Int) : Rec := ⟨2, 0, 0, 0, i, str [x, (i : Int)]⟩
theorem inn_may (i : Nat) (x : Int) (hi : i < 100) : mayB (inn i x) = true := by
  have h : (str [x, (i : Int)]).size = 2 := str_size _
  rw [inn, mayB_eq, h]
  exact decide_eq_true ⟨by omega, by omega, by omega, by omega, by omega⟩
theorem inn_fit (i : Nat) (x : Int) : (inn i x).Fit := ⟨by show -9223372036854775808 ≤ (2 : Int) ∧ (2 : Int) ≤ 9223372036854775807; omega, by show 0 < 4294967296; omega, by show (str [x, (i : Int)]).size ≤ maxLen; rw [str_size]; unfold maxLen; show 2 ≤ _; omega⟩
theorem inn_length (i : Nat) (x : Int) (hi : i < 100) : (enc (inn i x)).length = 41 := by
  rw [enc, if_pos (inn_may i x hi), encL_length]
  show 39 + (str [x, (i : Int)]).size = 41
  rw [str_size]
  rfl
set_option maxRecDepth 100000 in
set_option maxHeartbeats 2000000 in
theorem inner_any (i : Nat) (hi : i < 100) (x : Int) (hx : 0 ≤ x ∧ x < 256) (w : World) : Calls Tryd.prog 18 #[.int .i64 (i : Int), .int .u8 x] w fun e w' => e = .returned (inn i x).val ∧ Below w.heap.size w w' := by
  have hby : Byte [x, (i : Int)] := by
    intro c hc
    simp at hc
    rcases hc with rfl | rfl
    · exact hx
    · omega
  have kc : ∀ (W : World), (convert 26 9 (.slice (some ⟨W.heap.size, 0, none⟩) 2 2)).run Tryd.prog (W.alloc (.cells #[.int .u8 x, .int .u8 (i : Int)] 5)) = .ok (.string (str [x, (i : Int)])) (W.alloc (.cells #[.int .u8 x, .int .u8 (i : Int)] 5)) := by
    intro W
    exact run_str (leads_new W [x, (i : Int)] (0, 0)) hby 2
  have k1 := kc (w.alloc (.cells #[.int .i64 0, .int .u32 0, .int .u64 0, .int .u64 0, .int .u64 0, .string ⟨#[]⟩] 32))
  rw [show (w.alloc (.cells #[.int .i64 0, .int .u32 0, .int .u64 0, .int .u64 0, .int .u64 0, .string ⟨#[]⟩] 32)).heap.size = w.heap.size + 1 by simp] at k1
  unfold inn Rec.val
  simp only
  obtain ⟨s, hs⟩ : ∃ s, str [x, (i : Int)] = s := ⟨_, rfl⟩
  rw [hs] at k1 ⊢
  have hx1 := hx.1
  have hx2 := hx.2
  have hm : (i : Int) % 256 = (i : Int) := by omega
  clear hby kc hs hx
  go_enter Tryd.func18, Tryd.ntmps18
  go_wp2_with fail
  refine bodyPost_ret (v := .agg #[.int .i64 2, .int .u32 0, .int .u64 0, .int .u64 0, .int .u64 (i : Int), .string s]) (by simp [results, Tryd.results18, go_sem]) rfl ⟨rfl, ?_⟩
  exact ((Below.refl _ _).alloc (Nat.le_refl _) _).alloc (by simp) _
end Go.Proofs.YtodajceiadbpeaaDoor.scan
