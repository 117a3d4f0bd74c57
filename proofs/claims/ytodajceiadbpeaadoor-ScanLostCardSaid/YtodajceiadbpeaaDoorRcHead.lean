/-
  CONTRACT of record.head.
-/
import Derived.Test.YtodajceiadbpeaaDoorRcBegins
import Derived.Test.YtodajceiadbpeaaDoorDkLaid
import Derived.Deep.RegionHeld3
namespace Go.Proofs.YtodajceiadbpeaaDoor.recd
open Go.RowKit Go.Proofs.YtodajceiadbpeaaDoor.num Go.Proofs.YtodajceiadbpeaaDoor.disk

/-- 'b[p:q]' of bytes that are there. -/
theorem run_sub (g off n cap p q : Nat) (hp : p < q) (hq : q ≤ cap) (W : World) : (Instr.slice 26 (.slice (some ⟨g, off, none⟩) n cap) (some (.int .i64 (p : Int))) (some (.int .i64 (q : Int))) none).run Tryd.prog W = .ok (.slice (some ⟨g, off + p, none⟩) (q - p) (cap - p)) W := by
  have h := run_cut (some ⟨g, off, none⟩) n cap p q (by omega) hq W
  rw [cutAt, if_neg (by omega), Option.map_some, Addr.add_mid] at h
  exact h
def At (W : World) (g off : Nat) (l : List Int) : Prop := ∀ i, i < l.length → W.cell? ⟨g, off + i, none⟩ = some (.int .u8 (l.getD i 0))
theorem At.sub {W : World} {g off : Nat} {l : List Int} (h : At W g off l) (p q : Nat) (hpq : p < q) (hq : q ≤ l.length) : Leads W (some ⟨g, off + p, none⟩) (recd.sub l p q) := by
  refine .inr ⟨g, off + p, rfl, fun i hi => ?_⟩
  rw [sub_length l p q hq] at hi
  rw [Nat.add_assoc, h (p + i) (by omega)]
  unfold recd.sub
  rw [List.getD_eq_getElem?_getD, List.getD_eq_getElem?_getD, List.getElem?_take_of_lt (by omega), List.getElem?_drop]
theorem At.alloc {W : World} {g off : Nat} {l : List Int} (h : At W g off l) (o : Obj) : At (W.alloc o) g off l := fun i hi => by
  have h0 := h i hi
  have hlt : g < W.heap.size := by
    rcases Nat.lt_or_ge g W.heap.size with h' | h'
    · exact h'
    · simp [World.cell?, Array.getElem?_eq_none h'] at h0
  exact (World.cell?_of_block (a := ⟨g, off + i, none⟩) (heap_alloc_old W o hlt)).trans h0
theorem At.later {W w : World} {g off : Nat} {l : List Int} (h : At W g off l) (hb : Below W.heap.size W w) : At w g off l := fun i hi => by
  have h0 := h i hi
  have hlt : g < W.heap.size := by
    rcases Nat.lt_or_ge g W.heap.size with h' | h'
    · exact h'
    · simp [World.cell?, Array.getElem?_eq_none h'] at h0
  exact (hb.cell (p := ⟨g, off + i, none⟩) hlt).trans h0
theorem get_at (a : Option Addr) (n : Nat) (l : List Int) (hn : l.length = n) (cap : Nat) (w : World) (hB : Leads w a l) (hb : Byte l) (hl : n ≤ 8) (hc : n ≤ cap) :
    Calls Tryd.prog 30 #[.slice a n cap] w fun e w' => e = .returned (.int .u64 ((val l : Nat) : Int)) ∧ w = w' := by
  subst hn; exact get_any a l cap w hB hb hl hc

set_option maxRecDepth 100000 in
set_option maxHeartbeats 1000000 in
theorem head_any (g off cap : Nat) (l : List Int) (w : World) (hl : At w g off l) (hb : Byte l) (hn : l.length = 39) (hc : 39 ≤ cap) :
    Calls Tryd.prog 27 #[.slice (some ⟨g, off, none⟩) 39 cap] w fun e w' => e = .returned (.tuple #[(headOf l).val, .int .i64 (lenOf l : Nat)]) ∧ Below w.heap.size w w' := by
  have s1 : ∀ W, (Instr.slice 26 (.slice (some ⟨g, off, none⟩) 39 cap) (some (.int .i64 2)) (some (.int .i64 3)) none).run Tryd.prog W = .ok (.slice (some ⟨g, off + 2, none⟩) 1 (cap - 2)) W := run_sub g off 39 cap 2 3 (by omega) (by omega)
  have s2 : ∀ W, (Instr.slice 26 (.slice (some ⟨g, off, none⟩) 39 cap) (some (.int .i64 3)) (some (.int .i64 7)) none).run Tryd.prog W = .ok (.slice (some ⟨g, off + 3, none⟩) 4 (cap - 3)) W := run_sub g off 39 cap 3 7 (by omega) (by omega)
  have s3 : ∀ W, (Instr.slice 26 (.slice (some ⟨g, off, none⟩) 39 cap) (some (.int .i64 7)) (some (.int .i64 15)) none).run Tryd.prog W = .ok (.slice (some ⟨g, off + 7, none⟩) 8 (cap - 7)) W := run_sub g off 39 cap 7 15 (by omega) (by omega)
  have s4 : ∀ W, (Instr.slice 26 (.slice (some ⟨g, off, none⟩) 39 cap) (some (.int .i64 15)) (some (.int .i64 23)) none).run Tryd.prog W = .ok (.slice (some ⟨g, off + 15, none⟩) 8 (cap - 15)) W := run_sub g off 39 cap 15 23 (by omega) (by omega)
  have s5 : ∀ W, (Instr.slice 26 (.slice (some ⟨g, off, none⟩) 39 cap) (some (.int .i64 23)) (some (.int .i64 31)) none).run Tryd.prog W = .ok (.slice (some ⟨g, off + 23, none⟩) 8 (cap - 23)) W := run_sub g off 39 cap 23 31 (by omega) (by omega)
  have s6 : ∀ W, (Instr.slice 26 (.slice (some ⟨g, off, none⟩) 39 cap) (some (.int .i64 31)) (some (.int .i64 35)) none).run Tryd.prog W = .ok (.slice (some ⟨g, off + 31, none⟩) 4 (cap - 31)) W := run_sub g off 39 cap 31 35 (by omega) (by omega)
  have HA := Lib.hid hl
  clear hl
  go_enter Tryd.func27, Tryd.ntmps27
  go_wp2_with fail
  have A1 : Hid (At (w.alloc (.cells #[.int .i64 0, .int .u32 0, .int .u64 0, .int .u64 0, .int .u64 0, .string ByteArray.empty] 32)) g off l) := HA.out.alloc _
  have v1 := val_lt 1 (sub l 2 3) (sub_length l 2 3 (by omega)) (sub_byte hb 2 3)
  have v2 := val_lt 4 (sub l 3 7) (sub_length l 3 7 (by omega)) (sub_byte hb 3 7)
  have v6 := val_lt 4 (sub l 31 35) (sub_length l 31 35 (by omega)) (sub_byte hb 31 35)
  rw [show (256 : Nat) ^ 1 = 256 from rfl] at v1
  rw [show (256 : Nat) ^ 4 = 4294967296 by decide] at v2 v6
  have e1 : IntKind.i64.wrap ((val (sub l 2 3) : Nat) : Int) = ((val (sub l 2 3) : Nat) : Int) := by rw [IntKind.wrap_i64]; omega
  have e2 : IntKind.u32.wrap ((val (sub l 3 7) : Nat) : Int) = ((val (sub l 3 7) : Nat) : Int) := by rw [IntKind.wrap_u32]; omega
  have e6 : IntKind.i64.wrap ((val (sub l 31 35) : Nat) : Int) = ((val (sub l 31 35) : Nat) : Int) := by rw [IntKind.wrap_i64]; omega
  clear v1 v2 v6
  have A2 : Hid (At (w.alloc (.cells #[.int .i64 0, .int .u32 0, .int .u64 0, .int .u64 0, .int .u64 0, .string ByteArray.empty] 32)).drew g off l) := A1
  go_region_held3 (fun W => Hid (At W g off l)) ((first | assumption | exact At.alloc (Hid.out (by assumption)) _))
    (first
      | (go_at_call 30; (with_reducible refine (get_at _ 1 _ (sub_length l 2 3 (by omega)) _ _ (At.sub (Hid.out (by assumption)) 2 3 (by omega) (by omega)) (sub_byte hb 2 3) (by omega) (by omega)).mono ?_); rintro e w' ⟨rfl, rfl⟩)
      | (go_at_call 30; (with_reducible refine (get_at _ 4 _ (sub_length l 3 7 (by omega)) _ _ (At.sub (Hid.out (by assumption)) 3 7 (by omega) (by omega)) (sub_byte hb 3 7) (by omega) (by omega)).mono ?_); rintro e w' ⟨rfl, rfl⟩)
      | (go_at_call 30; (with_reducible refine (get_at _ 8 _ (sub_length l 7 15 (by omega)) _ _ (At.sub (Hid.out (by assumption)) 7 15 (by omega) (by omega)) (sub_byte hb 7 15) (by omega) (by omega)).mono ?_); rintro e w' ⟨rfl, rfl⟩)
      | (go_at_call 30; (with_reducible refine (get_at _ 8 _ (sub_length l 15 23 (by omega)) _ _ (At.sub (Hid.out (by assumption)) 15 23 (by omega) (by omega)) (sub_byte hb 15 23) (by omega) (by omega)).mono ?_); rintro e w' ⟨rfl, rfl⟩)
      | (go_at_call 30; (with_reducible refine (get_at _ 8 _ (sub_length l 23 31 (by omega)) _ _ (At.sub (Hid.out (by assumption)) 23 31 (by omega) (by omega)) (sub_byte hb 23 31) (by omega) (by omega)).mono ?_); rintro e w' ⟨rfl, rfl⟩))
  all_goals
    have A3 : At (((w.alloc (.cells #[.int .i64 0, .int .u32 0, .int .u64 0, .int .u64 0, .int .u64 0, .string ⟨#[]⟩] 32)).alloc (.cells #[.int .i64 (val (sub l 2 3) : Nat), .int .u32 (val (sub l 3 7) : Nat), .int .u64 (val (sub l 7 15) : Nat), .int .u64 (val (sub l 15 23) : Nat), .int .u64 (val (sub l 23 31) : Nat), .string ⟨#[]⟩] 32)).drew) g off l := (A1.out.alloc _).later (below_draws (Below.refl _ _) 1)
    have B3 : Below w.heap.size w (((w.alloc (.cells #[.int .i64 0, .int .u32 0, .int .u64 0, .int .u64 0, .int .u64 0, .string ⟨#[]⟩] 32)).alloc (.cells #[.int .i64 (val (sub l 2 3) : Nat), .int .u32 (val (sub l 3 7) : Nat), .int .u64 (val (sub l 7 15) : Nat), .int .u64 (val (sub l 15 23) : Nat), .int .u64 (val (sub l 23 31) : Nat), .string ⟨#[]⟩] 32)).drew) := below_draws (((Below.refl _ _).alloc (Nat.le_refl _) _).alloc (by simp) _) 1
    have W3 : Whole (((w.alloc (.cells #[.int .i64 0, .int .u32 0, .int .u64 0, .int .u64 0, .int .u64 0, .string ⟨#[]⟩] 32)).alloc (.cells #[.int .i64 (val (sub l 2 3) : Nat), .int .u32 (val (sub l 3 7) : Nat), .int .u64 (val (sub l 7 15) : Nat), .int .u64 (val (sub l 15 23) : Nat), .int .u64 (val (sub l 23 31) : Nat), .string ⟨#[]⟩] 32)).drew) w.heap.size 32 [.int .i64 0, .int .u32 0, .int .u64 0, .int .u64 0, .int .u64 0, .string ⟨#[]⟩] := ((Whole.new_ rfl rfl).more _).draws 1
    have W4 : Whole (((w.alloc (.cells #[.int .i64 0, .int .u32 0, .int .u64 0, .int .u64 0, .int .u64 0, .string ⟨#[]⟩] 32)).alloc (.cells #[.int .i64 (val (sub l 2 3) : Nat), .int .u32 (val (sub l 3 7) : Nat), .int .u64 (val (sub l 7 15) : Nat), .int .u64 (val (sub l 15 23) : Nat), .int .u64 (val (sub l 23 31) : Nat), .string ⟨#[]⟩] 32)).drew) (w.heap.size + 1) 32 [.int .i64 (val (sub l 2 3) : Nat), .int .u32 (val (sub l 3 7) : Nat), .int .u64 (val (sub l 7 15) : Nat), .int .u64 (val (sub l 15 23) : Nat), .int .u64 (val (sub l 23 31) : Nat), .string ⟨#[]⟩] := (Whole.new_ (by simp) rfl).draws 1
    have A3' := Lib.hid A3
    have B3' := Lib.hid B3
    have W3' := Lib.hid W3
    have W4' := Lib.hid W4
    clear A3 B3 W3 W4
    go_wp2_with fail
    go_region_with (go_at_call 30; refine (get_at _ 4 _ (sub_length l 31 35 (by omega)) _ _ (At.sub (W := _) (by first | exact A3'.out | exact (A3'.out.later (by assumption))) 31 35 (by omega) (by omega)) (sub_byte hb 31 35) (by omega) (by omega)).mono ?_; rintro e w' ⟨rfl, rfl⟩)
    all_goals
      go_wp2_with fail
      refine bodyPost_ret (v := .tuple #[(headOf l).val, .int .i64 (lenOf l : Nat)]) (by simp [results, Tryd.results27, go_sem, Rec.val, headOf, lenOf]; try rfl) rfl ⟨rfl, ?_⟩
      exact below_draws (below_draws (((Below.refl _ _).alloc (Nat.le_refl _) _).alloc (by simp) _) 1) 1
end Go.Proofs.YtodajceiadbpeaaDoor.recd
