import Derived.Test.YtenkchhlaphocaaGreatDoorLzA
namespace Go.Proofs.YtenkchhlaphocaaGreatDoor
open Go.RowKit
theorem tHid {p : Prop} (h : p) : Hid p := h
end Go.Proofs.YtenkchhlaphocaaGreatDoor
