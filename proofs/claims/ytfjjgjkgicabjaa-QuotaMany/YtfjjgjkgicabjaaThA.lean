import Derived.Test.YtfjjgjkgicabjaaLzA
namespace Go.Proofs.Ytfjjgjkgicabjaa
open Go.RowKit
theorem tHid {p : Prop} (h : p) : Hid p := h
end Go.Proofs.Ytfjjgjkgicabjaa
