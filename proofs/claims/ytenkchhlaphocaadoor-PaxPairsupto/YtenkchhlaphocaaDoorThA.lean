import Derived.Test.YtenkchhlaphocaaDoorLzA
namespace Go.Proofs.YtenkchhlaphocaaDoor
open Go.RowKit
theorem tHid {p : Prop} (h : p) : Hid p := h
end Go.Proofs.YtenkchhlaphocaaDoor
