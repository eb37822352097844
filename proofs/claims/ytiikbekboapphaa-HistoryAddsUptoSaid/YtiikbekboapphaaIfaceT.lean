/- Calls through heap.Interface: which function, and which receiver. -/
import Derived.Test.YtiikbekboapphaaPopE
import Derived.Test.YtiikbekboapphaaPush
namespace Go.Proofs.Ytiikbekboapphaa
set_option maxRecDepth 100000
open Go.RowKit
theorem m_less (g : Nat) (w : World) : (method 204 73 (.pointer (some ⟨g, 0, none⟩)) "Less").run Try.prog w = .ok (70, .pointer (some ⟨g, 0, none⟩)) w := by kernel_rfl
theorem m_push (g : Nat) (w : World) : (method 204 73 (.pointer (some ⟨g, 0, none⟩)) "Push").run Try.prog w = .ok (72, .pointer (some ⟨g, 0, none⟩)) w := by kernel_rfl
theorem m_pop (g : Nat) (w : World) : (method 204 73 (.pointer (some ⟨g, 0, none⟩)) "Pop").run Try.prog w = .ok (71, .pointer (some ⟨g, 0, none⟩)) w := by kernel_rfl
theorem m_len0 (g : Nat) (w : World) : (method 204 73 (.pointer (some ⟨g, 0, none⟩)) "Len").run Try.prog w = (load ⟨g, 0, none⟩ >>= fun x => (Pure.pure (69, x) : Sem (FuncId × Value))).run Try.prog w := by kernel_rfl
theorem m_len (g : Nat) (v : Value) (w : World) (h : w.cell? ⟨g, 0, none⟩ = some v) : (method 204 73 (.pointer (some ⟨g, 0, none⟩)) "Len").run Try.prog w = .ok (69, v) w := by
  rw [m_len0]
  simp [h]
theorem m_swap0 (g : Nat) (w : World) : (method 204 73 (.pointer (some ⟨g, 0, none⟩)) "Swap").run Try.prog w = (load ⟨g, 0, none⟩ >>= fun x => (Pure.pure (73, x) : Sem (FuncId × Value))).run Try.prog w := by kernel_rfl
theorem m_swap (g : Nat) (v : Value) (w : World) (h : w.cell? ⟨g, 0, none⟩ = some v) : (method 204 73 (.pointer (some ⟨g, 0, none⟩)) "Swap").run Try.prog w = .ok (73, v) w := by
  rw [m_swap0]
  simp [h]
theorem Hp.len_ {w : World} {g : Nat} {v : Value} {l : List Nat} (h : Hp w g v l) : (method 204 73 (.pointer (some ⟨g, 0, none⟩)) "Len").run Try.prog w = .ok (69, v) w := m_len g v w (h.full.cell 0)
theorem Hp.swap_ {w : World} {g : Nat} {v : Value} {l : List Nat} (h : Hp w g v l) : (method 204 73 (.pointer (some ⟨g, 0, none⟩)) "Swap").run Try.prog w = .ok (73, v) w := m_swap g v w (h.full.cell 0)
/-- the value of the interface -/
def ifV (g : Nat) : Value := .iface 73 (.pointer (some ⟨g, 0, none⟩))
end Go.Proofs.Ytiikbekboapphaa
