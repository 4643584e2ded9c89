import Derived.Test.YtoplhkpbicgceaaLzA
namespace Go.Proofs.Ytoplhkpbicgceaa
open Go.RowKit
theorem tHid {p : Prop} (h : p) : Hid p := h
end Go.Proofs.Ytoplhkpbicgceaa
