/- The law OnceSigned, with its fact: the public key of bytes 0 is not bytes 0. -/
import Derived.Test.YtigdgmoiljifjaaDoorYLawOsigned
import Derived.Test.YtigdgmoiljifjaaDoorYFacto
namespace Go.Proofs.YtigdgmoiljifjaaDoor
open Go.RowKit
set_option linter.unusedVariables false
theorem zD_ne : oncePubL zD ≠ zD := once_pub_ne
theorem osigned_full (seed m : List UInt8) (w : World) (G : Env w) (hs : seed.length = 32) (hm : m.length = 32) :
    Calls Tryd.prog 4 #[digestV seed, digestV m] w fun e w' => e = .returned (.bool true) ∧ Below w.heap.size w w' :=
  osigned_walk seed m w G hs hm (oncePubL zD) (oncePubL_len _) zD_ne (fun wx gx => by
    have h := wonce_public zD wx gx rfl
    unfold digestV at h
    rw [zDlit] at h
    exact h)
end Go.Proofs.YtigdgmoiljifjaaDoor
