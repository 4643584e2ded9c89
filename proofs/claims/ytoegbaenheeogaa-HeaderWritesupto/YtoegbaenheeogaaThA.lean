import Derived.Test.YtoegbaenheeogaaLzA
namespace Go.Proofs.Ytoegbaenheeogaa
open Go.RowKit
theorem tHid {p : Prop} (h : p) : Hid p := h
end Go.Proofs.Ytoegbaenheeogaa
