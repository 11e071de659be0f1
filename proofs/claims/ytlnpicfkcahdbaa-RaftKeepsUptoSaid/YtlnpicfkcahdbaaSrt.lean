/- Lists of entries in order: inserted, looked up, sorted (plain mathematics). -/
import Derived.Test.YtlnpicfkcahdbaaMathE
import Derived.Test.YtlnpicfkcahdbaaEnF
namespace Go.Proofs.Ytlnpicfkcahdbaa
open Go Go.RowKit

where
  insL_mem' {l : List En} {x y : En} (h : y ∈ insL l x) : y = x ∨ y ∈ l := by
    unfold insL at h
    rcases List.mem_append.1 h with h | h
    · exact .inr (List.mem_of_mem_take h)
    · rcases List.mem_cons.1 h with h | h
      · exact .inl h
      · exact .inr (List.mem_of_mem_drop h)
end Go.Proofs.Ytlnpicfkcahdbaa
