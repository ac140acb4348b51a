package fourier

// wavesUpTo are those of 2, 4 and so on up to n points: as those of 2 h points are h, they stand from place h on, and place 0 is free.
func wavesUpTo(n int) []complex128 {
	out := make([]complex128, n)
	for level, root := range roots() {
		half := 1 << level
		if half >= n {
			break
		}
		w := complex(1, 0)
		for k := range half {
			out[half+k] = w
			w = times(w, root)
		}
	}
	return out
}

// roots are those of 2, 4 and so on up to MaxPoints points.
func roots() [12]complex128 {
	return [...]complex128{
		complex(-1, 0),
		complex(0, -1),
		complex(0x1.6a09e667f3bcdp-1, -0x1.6a09e667f3bcdp-1),
		complex(0x1.d906bcf328d46p-1, -0x1.87de2a6aea963p-2),
		complex(0x1.f6297cff75cbp-1, -0x1.8f8b83c69a60ap-3),
		complex(0x1.fd88da3d12526p-1, -0x1.917a6bc29b42cp-4),
		complex(0x1.ff621e3796d7ep-1, -0x1.91f65f10dd814p-5),
		complex(0x1.ffd886084cd0dp-1, -0x1.92155f7a3667ep-6),
		complex(0x1.fff62169b92dbp-1, -0x1.921d1fcdec784p-7),
		complex(0x1.fffd8858e8a92p-1, -0x1.921f0fe670071p-8),
		complex(0x1.ffff621621d02p-1, -0x1.921f8becca4bap-9),
		complex(0x1.ffffd88586ee6p-1, -0x1.921faaee6472dp-10),
	}
}

func mirror(z complex128) complex128 { return complex(real(z), -imag(z)) }

// times is written out: of z * w some machines put a product and the sum behind it together.
func times(z, w complex128) complex128 {
	a, b, c, d := real(z), imag(z), real(w), imag(w)
	return complex(float64(a*c)-float64(b*d), float64(a*d)+float64(b*c))
}
