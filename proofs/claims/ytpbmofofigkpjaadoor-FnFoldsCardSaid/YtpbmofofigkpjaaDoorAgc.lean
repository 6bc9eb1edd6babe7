/-
  Plain facts on bytes that a law is handed, as the specification's source of choices reads them.
-/
import Derived.Test.YtpbmofofigkpjaaDoorArg
import Derived.Test.YtpbmofofigkpjaaDoorSro
namespace Go.Proofs.YtpbmofofigkpjaaDoor.ag
open Go.RowKit
set_option linter.unusedVariables false

theorem code {w : World} {a : Option Addr} {len cap : Nat} {l : List UInt8} (hl : l.length = len) (hlen : len ≤ 1048576) (h : ow.Reads .u8 w (.slice a len cap) (b6.bz l)) : sr.Bytes w a len := by
  obtain ⟨a', cap', hv, h⟩ := h
  cases hv
  rw [b6.bz_len] at hlen h ⊢
  refine ⟨hlen, ?_⟩
  rcases h with e | ⟨b, off, rfl, hc⟩
  · exact .inl (by have := congrArg List.length e; rwa [b6.bz_len] at this)
  · refine .inr ⟨b, off, rfl, fun j hj => ⟨_, ?_, ?_, hc j hj⟩⟩
    · rw [b6.bz_at]; omega
    · rw [b6.bz_at]; have := (l.getD j 0).toNat_lt; omega
end Go.Proofs.YtpbmofofigkpjaaDoor.ag
