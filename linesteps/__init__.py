"""Steps of a straight line through 0, exactly."""
