/- The block of zeros under the key of zeros. -/
import Derived.Test.YtomlednobmaaeaaDoorCiL
namespace Go.Proofs.YtomlednobmaaeaaDoor
theorem aes0 : aesK (kyW (colsW z16)) z16 = [0x66, 0xe9, 0x4b, 0xd4, 0xef, 0x8a, 0x2c, 0x3b, 0x88, 0x4c, 0xfa, 0x59, 0xca, 0x34, 0x2b, 0x2e] := by decide +kernel
end Go.Proofs.YtomlednobmaaeaaDoor
