/-
  FINDS AS THEY LIE IN MEMORY: scan.Found, the reference's Found, api.Record; a slice of bytes from a place on.
-/
import Derived.Test.YtodajceiadbpeaaDoorScMath
import Derived.Test.YtodajceiadbpeaaDoorScRow
import Derived.Test.YtodajceiadbpeaaDoorDkLaid
import Derived.Test.YtodajceiadbpeaaDoorRcDec
namespace Go.Proofs.YtodajceiadbpeaaDoor.scan
open Go.RowKit Go.Proofs.YtodajceiadbpeaaDoor.disk Go.Proofs.YtodajceiadbpeaaDoor.recd

def Fd.cells (x : Fd) : List Value := .int .i64 (x.at_ : Int) :: x.r.cells
def zrec : Value := .agg #[.int .i64 0, .int .u32 0, .int .u64 0, .int .u64 0, .int .u64 0, .string ⟨#[]⟩]
def zfd : Value := .agg #[.int .i64 0, .int .i64 0, .int .u32 0, .int .u64 0, .int .u64 0, .int .u64 0, .string ⟨#[]⟩]
theorem rec_one (r : Rec) : ∀ u ∈ r.cells, u.oneCell' = true := by
  intro u hu
  simp only [Rec.cells, List.mem_cons, List.not_mem_nil, or_false] at hu
  rcases hu with rfl | rfl | rfl | rfl | rfl | rfl <;> rfl
theorem fd_one (x : Fd) : ∀ u ∈ x.cells, u.oneCell' = true := by
  intro u hu
  rcases List.mem_cons.1 hu with rfl | hu
  · rfl
  · exact rec_one _ u hu
/-- A row of scan.Found, of the reference's Found, of records. -/
def fS : Form Fd := { e := 46, s := 33, sz := 7, by_ := 64, cells := Fd.cells, zero := zfd, under := Tryd.underlying33, info := by kernel_rfl, zeros := rfl, some_ := by decide, small := by decide, length := fun _ => rfl, one := fd_one }
def fR : Form Fd := { e := 59, s := 36, sz := 7, by_ := 64, cells := Fd.cells, zero := zfd, under := Tryd.underlying36, info := by kernel_rfl, zeros := rfl, some_ := by decide, small := by decide, length := fun _ => rfl, one := fd_one }

/-- A slice of bytes from place p on. -/
theorem run_tail (a : Option Addr) (n cap p : Nat) (hp : p ≤ n) (_ : n ≤ cap) (w : World) : (Instr.slice 26 (.slice a n cap) (some (.int .i64 (p : Int))) none none).run Tryd.prog w = .ok (.slice (cutAt a cap p) (n - p) (cap - p)) w := by
  rw [run_slice_l w 26 _ n cap (by rw [byte_elem]; exact Tryd.underlying26) .i64 (p : Int) (by omega) (by omega), byte_elem, byte_sizeOf]
  simp [Result.andThen, sliced, cutAt]
theorem leads_tail {w : World} {a : Option Addr} {l : List Int} {cap : Nat} (h : Leads w a l) (p : Nat) (hp : p ≤ l.length) (hc : l.length ≤ cap) : Leads w (cutAt a cap p) (l.drop p) := by
  have := leads_cut h p l.length hp (Nat.le_refl _) hc
  rwa [List.take_of_length_le (by rw [List.length_drop]; omega)] at this
end Go.Proofs.YtodajceiadbpeaaDoor.scan
