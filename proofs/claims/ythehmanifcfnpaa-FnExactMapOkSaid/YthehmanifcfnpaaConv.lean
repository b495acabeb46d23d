/- A slice of bytes turned into a text: the text of just these bytes. -/
import Derived.Test.YthehmanifcfnpaaOwnB
import Derived.Laws.BytesArg
namespace Go.Proofs.Ythehmanifcfnpaa
set_option maxRecDepth 20000
open Go.RowKit

theorem conv_bytes (A : Option Addr) (n c : Nat) (zs : List Int) (B : Nat) (w : World) (hb : Byts w B A n zs) :
    (convert 47 9 (.slice A n c)).run Try.prog w = .ok (.string (strOfNums zs)) w := by
  rcases Nat.eq_zero_or_pos n with h0 | hp
  · subst h0
    have hz : zs = [] := List.eq_nil_of_length_eq_zero hb.1
    subst hz
    rcases A with _ | a
    · exact run_convert_bytes_nil w _ _ Try.underlying47 Try.underlying5 0 c _ Try.underlying9
    · rw [run_convert_bytes_string w _ _ _ (some a) 0 c Try.underlying47 Try.underlying5 Try.underlying9]
      have hl : (loadCells a 0).run Try.prog w = .ok ([].map (Value.int .u8)).toArray w := by
        have := run_loadCells_list (P := Try.prog) w a [] (fun j v hj => by simp at hj)
        simpa using this
      rw [run_bytesToString w a 0 c [] hl]
      rfl
  · obtain ⟨b, off, rfl, _, hc⟩ := hb.2.2 hp
    exact run_convert_bytes_arg w _ _ Try.underlying47 Try.underlying5 b off n c zs hb.1 hc _ Try.underlying9

end Go.Proofs.Ythehmanifcfnpaa
