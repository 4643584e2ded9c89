package extract

import "satchel/api"

// Class is the error of the closed list that stands for an error.
func Class(e api.Errno) api.Errno {
	if class, listed := classes()[e]; listed {
		return class
	}
	return api.ErrRefused
}

// classes is the closed list.
func classes() map[api.Errno]api.Errno {
	return map[api.Errno]api.Errno{
		api.OK: api.OK,

		api.ErrShort:  api.ErrFormat,
		api.ErrLong:   api.ErrFormat,
		api.ErrDigit:  api.ErrFormat,
		api.ErrBig:    api.ErrFormat,
		api.ErrMagic:  api.ErrFormat,
		api.ErrSum:    api.ErrFormat,
		api.ErrType:   api.ErrFormat,
		api.ErrLength: api.ErrFormat,
		api.ErrKey:    api.ErrFormat,
		api.ErrRecord: api.ErrFormat,
		api.ErrAlone:  api.ErrFormat,
		api.ErrSparse: api.ErrFormat,
		api.ErrForm:   api.ErrFormat,
		api.ErrBytes:  api.ErrFormat,

		api.ErrEmpty:    api.ErrUnsafer,
		api.ErrAbsolute: api.ErrUnsafer,
		api.ErrDots:     api.ErrUnsafer,
		api.ErrZero:     api.ErrUnsafer,
		api.ErrName:     api.ErrUnsafer,
		api.ErrDeep:     api.ErrUnsafer,
		api.ErrUnsafe:   api.ErrUnsafer,
		api.ErrTarget:   api.ErrUnsafer,

		api.ErrMissing: api.ErrBlocked,
		api.ErrNone:    api.ErrBlocked,
		api.ErrInWay:   api.ErrBlocked,
		api.ErrNotDir:  api.ErrBlocked,
		api.ErrOutside: api.ErrBlocked,
		api.ErrThere:   api.ErrBlocked,
		api.ErrKind:    api.ErrBlocked,
		api.ErrLink:    api.ErrBlocked,

		api.ErrEntries: api.ErrLimits,
		api.ErrDepth:   api.ErrLimits,
		api.ErrQuota:   api.ErrLimits,

		api.ErrOdd:   api.ErrUnknown,
		api.ErrSpace: api.ErrNoRoom,
	}
}
