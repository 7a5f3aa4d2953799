/- The law WotsSigned, with its fact: the public key of bytes 0 is not bytes 0. -/
import Derived.Test.YtdplajhebapkgaaDoorYLawWsigned
import Derived.Test.YtdplajhebapkgaaDoorYFactw
namespace Go.Proofs.YtdplajhebapkgaaDoor
open Go.RowKit
set_option linter.unusedVariables false
theorem zD_neW : wotsPubL zD ≠ zD := wots_pub_ne
theorem wsigned_full (seed m : List UInt8) (w : World) (G : Env w) (hs : seed.length = 32) (hm : m.length = 32) :
    Calls Tryd.prog 4 #[digestV seed, digestV m] w fun e w' => e = .returned (.bool true) ∧ Below w.heap.size w w' :=
  wsigned_walk seed m w G hs hm (wotsPubL zD) (wotsPubL_len _) zD_neW (fun wx gx => by
    have h := wwots_public zD wx gx rfl
    unfold digestV at h
    rw [zDlit] at h
    exact h)
end Go.Proofs.YtdplajhebapkgaaDoor
