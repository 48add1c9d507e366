/- The chapter's example, as plain data. -/
import Derived.Test.YtkcckhchlhmhhaaDoorReadPure
import Derived.KernelRfl
namespace Go.Proofs.YtkcckhchlhmhhaaDoor
open Go.RowKit Go.Deep

def saneS : ByteArray := ⟨#[40, 102, 32, 49, 32, 34, 97, 92, 110, 98, 34, 32, 40, 103, 41, 41]⟩
def saneF : Fm := .mk 3 0 ⟨#[]⟩ [.mk 1 0 ⟨#[102]⟩ [], .mk 0 1 ⟨#[]⟩ [], .mk 2 0 ⟨#[97, 10, 98]⟩ [], .mk 3 0 ⟨#[]⟩ [.mk 1 0 ⟨#[103]⟩ []]]
theorem sane_read : readR saneS = .ok [saneF] := by kernel_rfl
theorem sane_size : szF saneF = 6 := by kernel_rfl
theorem sane_depth : dpF saneF = 3 := by kernel_rfl
end Go.Proofs.YtkcckhchlhmhhaaDoor
