/- Two slices of bytes are told alike by the texts that they write. -/
import Derived.Test.YtjmlpekaehfeeaaConv
namespace Go.Proofs.Ytjmlpekaehfeeaa
set_option maxRecDepth 20000
open Go.RowKit

theorem likeBytes_yes (A A' : Option Addr) (n n' c c' : Nat) (zs : List Int) (B B' : Nat) (w : World) (hb : Byts w B A n zs) (hb' : Byts w B' A' n' zs) :
    Calls Try.prog 31 #[.slice A n c, .slice A' n' c'] w fun e w' => e = .returned (.bool true) ∧ w = w' := by
  have k1 := conv_bytes A n c zs B w hb
  have k2 := conv_bytes A' n' c' zs B' w hb'
  clear hb hb'
  go_enter Try.func31, Try.ntmps31
  go_wp2
  go_ret
  exact ⟨rfl, rfl⟩

end Go.Proofs.Ytjmlpekaehfeeaa
